/- Texts of UnP3, UnF, UnM0, UnM1. Own work of the verifier. -/
import Derived.Test.YtaakpdakeolgeaaGreatUqas
import Derived.Test.YtaakpdakeolgeaaGreatUqam
namespace Go.Proofs.YtaakpdakeolgeaaGreat
open Go Go.RowKit
set_option linter.unusedVariables false
open Classical in
noncomputable def endB (M : BM) (t : Tr) : Tr := if h : ∃ e, EndB M t e then Classical.choose h else t
theorem endB_eq {M : BM} {t e : Tr} (h : EndB M t e) : endB M t = e := by
  have hx : ∃ e, EndB M t e := ⟨e, h⟩
  unfold endB
  rw [dif_pos hx]
  exact (Classical.choose_spec hx).det h
open Classical in
noncomputable def stepE (cF cC : Int) (M : BM) (x y : Tr) : Except Int (BM × List TT) :=
  if x.1.1 = 0 ∧ y.1.1 = 0 then
    if y.1.2.1 < x.1.2.1 then .ok (M.set x.1.2.1 y, []) else if x.1.2.1 < y.1.2.1 then .ok (M.set y.1.2.1 x, []) else .ok (M, [])
  else if x.1.1 = 0 then (if Reach M y x.1.2.1 then .error cC else .ok (M.set x.1.2.1 y, []))
  else if y.1.1 = 0 then (if Reach M x y.1.2.1 then .error cC else .ok (M.set y.1.2.1 x, []))
  else if x.1 = y.1 then .ok (M, (trs x.2).zip (trs y.2)) else .error cF
noncomputable def runU (cF cC cL : Int) : Nat → BM → List TT → Except Int (BM × Nat)
  | k, M, [] => .ok (M, k)
  | 0, _, _ :: _ => .error cL
  | k + 1, M, p :: ps => match stepE cF cC M (endB M p.1) (endB M p.2) with
    | .error c => .error c
    | .ok (M', qs) => runU cF cC cL k M' (qs ++ ps)
theorem runU_nil (cF cC cL : Int) (k : Nat) (M : BM) : runU cF cC cL k M [] = .ok (M, k) := by cases k <;> rfl
theorem runU_append (cF cC cL : Int) : ∀ (k : Nat) (M : BM) (ps qs : List TT), runU cF cC cL k M (ps ++ qs) = match runU cF cC cL k M ps with
    | .error c => .error c
    | .ok (M', k') => runU cF cC cL k' M' qs
  | k, M, [], qs => by rw [runU_nil]; rfl
  | 0, M, p :: ps, qs => rfl
  | k + 1, M, p :: ps, qs => by
    simp only [List.cons_append, runU]
    cases h : stepE cF cC M (endB M p.1) (endB M p.2) with
    | error c => rfl
    | ok r =>
      obtain ⟨M', rs⟩ := r
      simp only
      rw [← List.append_assoc, runU_append cF cC cL k M' (rs ++ ps) qs]
structure WfU (M : BM) : Prop where
  acyc : ∃ r, Acyc M r
  ok : ∀ v u, M v = some u → u.fo.ok
theorem ok_var {t : Tr} (h : t.fo.ok) (h0 : t.1.1 = 0) : IsV t t.1.2.1 := ⟨h0, rfl, h.2.2.2.1 (by rw [h0]; decide)⟩
theorem WfU.end_ex {M : BM} (h : WfU M) (t : Tr) : ∃ e, EndB M t e := by
  obtain ⟨r, hr⟩ := h.acyc
  obtain ⟨K, hK⟩ := list_top r (vsT t)
  exact hr.ends K t hK
theorem WfU.endB {M : BM} (h : WfU M) (t : Tr) : EndB M t (endB M t) := by
  obtain ⟨e, he⟩ := h.end_ex t
  rw [endB_eq he]; exact he
theorem WfU.end_ok {M : BM} (h : WfU M) {t e : Tr} (ht : t.fo.ok) (he : EndB M t e) : e.fo.ok := by
  induction he with
  | stay _ => exact ht
  | go hv hm _ ih => exact ih (h.ok _ _ hm)
theorem Cut.wf {P M : BM} (hc : Cut P M) (h : WfU M) : WfU P := by
  obtain ⟨r, hr⟩ := h.acyc
  refine ⟨⟨r, hc.acyc hr⟩, fun v u hp => ?_⟩
  cases hm : M v with
  | none => rw [hc.1 v hm] at hp; cases hp
  | some x =>
    obtain ⟨u', hp', hway⟩ := hc.2 v x hm
    rw [hp] at hp'
    cases hp'
    have hx := h.ok v x hm
    clear hp hm hc
    induction hway with
    | here => exact hx
    | on hv hm _ ih => exact ih (h.ok _ _ hm)
theorem Cut.endB {P M : BM} (hc : Cut P M) (h : WfU M) (t : Tr) : endB P t = endB M t :=
  (endB_eq (hc.ends ((hc.wf h).endB t))).symm
theorem Cut.reach_eq {P M : BM} (hc : Cut P M) (h : WfU M) {v : Int} (hv : M v = none) (t : Tr) : Reach P t v ↔ Reach M t v := by
  obtain ⟨r, hr⟩ := h.acyc
  obtain ⟨K, hK⟩ := list_top r (vsT t)
  exact hc.reach_iff hr hv hK
theorem Cut.step {P M : BM} (hc : Cut P M) (h : WfU M) {cF cC : Int} {x y : Tr} (hx : ∀ v, IsV x v → M v = none) (hy : ∀ v, IsV y v → M v = none) (ox : x.fo.ok) (oy : y.fo.ok) : match stepE cF cC M x y with
    | .error c => stepE cF cC P x y = .error c
    | .ok (M', qs) => ∃ P', stepE cF cC P x y = .ok (P', qs) ∧ Cut P' M' := by
  unfold stepE
  by_cases h1 : x.1.1 = 0 <;> by_cases h2 : y.1.1 = 0
  · have nx := hx _ (ok_var ox h1)
    have ny := hy _ (ok_var oy h2)
    simp only [h1, h2, and_self, if_true]
    by_cases g1 : y.1.2.1 < x.1.2.1
    · simp only [if_pos g1]
      exact ⟨_, rfl, hc.bind nx⟩
    · by_cases g2 : x.1.2.1 < y.1.2.1
      · simp only [if_neg g1, if_pos g2]
        exact ⟨_, rfl, hc.bind ny⟩
      · simp only [if_neg g1, if_neg g2]
        exact ⟨_, rfl, hc⟩
  · have nx := hx _ (ok_var ox h1)
    simp only [h1, h2, and_false, if_false, if_true]
    by_cases hr : Reach M y x.1.2.1
    · rw [if_pos hr, if_pos ((hc.reach_eq h nx y).2 hr)]
    · rw [if_neg hr, if_neg (fun h' => hr ((hc.reach_eq h nx y).1 h'))]
      exact ⟨_, rfl, hc.bind nx⟩
  · have ny := hy _ (ok_var oy h2)
    simp only [h1, h2, false_and, if_false, if_true]
    by_cases hr : Reach M x y.1.2.1
    · rw [if_pos hr, if_pos ((hc.reach_eq h ny x).2 hr)]
    · rw [if_neg hr, if_neg (fun h' => hr ((hc.reach_eq h ny x).1 h'))]
      exact ⟨_, rfl, hc.bind ny⟩
  · simp only [h1, h2, and_self, if_false]
    by_cases g : x.1 = y.1
    · simp only [if_pos g]
      exact ⟨_, rfl, hc⟩
    · simp only [if_neg g]
theorem trs_okU : ∀ {F : Fo}, F.ok → ∀ t ∈ trs F, t.fo.ok
  | .nil, _, t, ht => by cases ht
  | .node c k r, h, t, ht => by
    rcases List.mem_cons.1 ht with rfl | ht
    · exact ⟨h.1, h.2.1, h.2.2.1, h.2.2.2.1, h.2.2.2.2.1, trivial⟩
    · exact trs_okU h.2.2.2.2.2 t ht
theorem WfU.set {M : BM} (h : WfU M) {v : Int} {t : Tr} (hv : M v = none) (ht : t.fo.ok) (hr : ¬ Reach M t v) : WfU (M.set v t) := by
  obtain ⟨r, ha⟩ := h.acyc
  refine ⟨ha.bind hv hr, fun w u hm => ?_⟩
  simp only [BM.set] at hm
  by_cases hw : w = v
  · rw [if_pos hw] at hm; cases hm; exact ht
  · rw [if_neg hw] at hm; exact h.ok w u hm
theorem reach_var {M : BM} {t : Tr} {u v : Int} (h : IsV t u) (hu : M u = none) (hr : Reach M t v) : v = u := by
  cases hr with
  | here h' => rw [h.vs] at h'; exact List.mem_singleton.1 h'
  | thro hw hm _ =>
    rw [h.vs] at hw
    rw [List.mem_singleton.1 hw, hu] at hm; cases hm
theorem WfU.step {M : BM} (h : WfU M) {cF cC : Int} {x y : Tr} (hx : ∀ v, IsV x v → M v = none) (hy : ∀ v, IsV y v → M v = none) (ox : x.fo.ok) (oy : y.fo.ok) {M' : BM} {qs : List TT} (hs : stepE cF cC M x y = .ok (M', qs)) : WfU M' ∧ ∀ p ∈ qs, p.1.fo.ok ∧ p.2.fo.ok := by
  have hno : ∀ p ∈ ([] : List TT), p.1.fo.ok ∧ p.2.fo.ok := fun p hp => by cases hp
  unfold stepE at hs
  by_cases h1 : x.1.1 = 0 <;> by_cases h2 : y.1.1 = 0
  · have vx := ok_var ox h1
    have vy := ok_var oy h2
    simp only [h1, h2, and_self, if_true] at hs
    split at hs
    · rename_i hlt
      cases hs
      exact ⟨h.set (hx _ vx) oy (fun hr => by have := reach_var vy (hy _ vy) hr; omega), hno⟩
    · split at hs
      · rename_i hlt
        cases hs
        exact ⟨h.set (hy _ vy) ox (fun hr => by have := reach_var vx (hx _ vx) hr; omega), hno⟩
      · cases hs; exact ⟨h, hno⟩
  · simp only [h1, h2, and_false, if_false, if_true] at hs
    split at hs
    · cases hs
    · rename_i hr
      cases hs
      exact ⟨h.set (hx _ (ok_var ox h1)) oy hr, hno⟩
  · simp only [h1, h2, false_and, if_false, if_true] at hs
    split at hs
    · cases hs
    · rename_i hr
      cases hs
      exact ⟨h.set (hy _ (ok_var oy h2)) ox hr, hno⟩
  · simp only [h1, h2, and_self, if_false] at hs
    split at hs
    · cases hs
      refine ⟨h, fun p hp => ?_⟩
      obtain ⟨ha, hb⟩ := List.of_mem_zip hp
      exact ⟨trs_okU ox.2.2.2.2.1 _ ha, trs_okU oy.2.2.2.2.1 _ hb⟩
    · cases hs
end Go.Proofs.YtaakpdakeolgeaaGreat

namespace Go.Proofs.YtaakpdakeolgeaaGreat
open Go Go.RowKit
set_option linter.unusedVariables false
theorem VMap.tight {w : World} {b N : Nat} {E : List (Int × Value)} (h : VMap w b N E) : VMap w b E.length E := by
  obtain ⟨D, ⟨es, clock, h1, F, hs, rfl⟩, hsz, r⟩ := h
  refine ⟨_, ⟨es, clock, h1, F, ?_, rfl⟩, hsz, r⟩
  rw [← hsz]
  simp [Maps.size, Go.length_sorted]
def BMIn (W0 : World) (Bt : Nat) (P : BM) (E : List (Int × Value)) : Prop := (∀ x u, P x = some u → ∃ v, look E x = some v ∧ FoIn W0 Bt u.fo [v]) ∧ ∀ x, P x = none → look E x = none
theorem BMIn.set {W0 : World} {Bt : Nat} {P : BM} {E : List (Int × Value)} (h : BMIn W0 Bt P E) {x : Int} {u : Tr} {v : Value} (hf : FoIn W0 Bt u.fo [v]) : BMIn W0 Bt (P.set x u) (putE E x v) := by
  constructor
  · intro y t hy
    rw [look_putE]
    simp only [BM.set] at hy
    by_cases e : y = x
    · rw [if_pos e] at hy ⊢; cases hy; exact ⟨v, rfl, hf⟩
    · rw [if_neg e] at hy ⊢; exact h.1 y t hy
  · intro y hy
    rw [look_putE]
    simp only [BM.set] at hy
    by_cases e : y = x
    · rw [if_pos e] at hy; cases hy
    · rw [if_neg e] at hy ⊢; exact h.2 y hy
def FolOut (W0 : World) (Bt : Nat) (M : BM) (b L : Nat) (e : Tr) (w : World) (r : Ending) (w' : World) : Prop :=
  ∃ v P E, r = .returned v ∧ FoIn W0 Bt e.fo [v] ∧ Cut P M ∧ BMIn W0 Bt P E ∧ VMap w' b E.length E ∧ E.length = L ∧ w.grownBy w' (some b)
set_option maxRecDepth 100000 in
theorem follow_any (W0 : World) (Bt : Nat) (M : BM) (hwf : WfU M) (b ub : Nat) (hne : ub ≠ b) {P : BM} {t e : Tr} (h : EndB P t e) : ∀ (v : Value) (E : List (Int × Value)) (w : World), Cut P M → t.fo.ok → FoIn W0 Bt t.fo [v] → BMIn W0 Bt P E → VMap w b E.length E → E.length ≤ 100000 → w.cell? ⟨ub, 0, none⟩ = some (.map (some b)) →
    Calls Tryz.prog 58 #[.pointer (some ⟨ub, 0, none⟩), v] w (FolOut W0 Bt M b E.length e w) := by
  induction h with
  | @stay t hs =>
    intro v E w hc hok hf hbm hm hE hcell
    obtain ⟨tv, yv, rfl⟩ := FoIn.iface (show FoIn W0 Bt (.node t.1 t.2 .nil) [v] from hf)
    have HF : Hid (FolOut W0 Bt M b E.length t w (.returned (.iface tv yv)) w) := ⟨_, P, E, rfl, hf, hc, hbm, hm, rfl, ⟨rfl, rfl, rfl, Nat.le_refl _, fun _ _ _ => rfl⟩⟩
    obtain ⟨v', vr, e', hnode, _⟩ := hf
    obtain ⟨rfl, rfl⟩ := List.cons.inj e'
    have a1 := isVar
    have a2 := noVar_num
    have a3 := noVar_atom
    have a4 := noVar_comp
    by_cases h0 : t.1.1 = 0
    · have hu : tv = 63 ∧ yv = .int .i64 t.1.2.1 := by
        rcases hnode with ⟨_, e⟩ | ⟨e, _⟩ | ⟨e, _⟩ | ⟨e, _⟩
        · cases e; exact ⟨rfl, rfl⟩
        · omega
        · omega
        · omega
      obtain ⟨rfl, rfl⟩ := hu
      have hcb := hok.1
      rw [h0] at hcb
      have hvr : 0 ≤ t.1.2.1 ∧ t.1.2.1 ≤ 1000000 := by simp [cellB] at hcb; exact ⟨hcb.1, hcb.2.1⟩
      have hl := hbm.2 _ (hs _ (ok_var hok h0))
      obtain ⟨x, ex⟩ : ∃ x, x = t.1.2.1 := ⟨_, rfl⟩
      have hlk := hm.look (t := 88) Tryz.underlying88 (zeroTerm w) t.1.2.1 hvr.1 hvr.2
      rw [hl] at hlk
      simp only [Option.isSome_none] at hlk
      rw [← ex] at hlk HF ⊢
      obtain ⟨L, eL⟩ : ∃ L, L = E.length := ⟨_, rfl⟩
      rw [← eL] at HF ⊢
      clear hc hok hbm hm hE hnode hcb hl hs h0 ex eL hvr
      go_enter Tryz.func58, Tryz.ntmps58
      go_wp2_with fail
      go_ret
      exact HF.out
    · have hcs : tv = 130 ∨ tv = 131 ∨ tv = 112 := by
        rcases hnode with ⟨e, _⟩ | ⟨_, e⟩ | ⟨_, e⟩ | ⟨_, e⟩
        · exact absurd e h0
        · simp only [Value.iface.injEq] at e; exact .inl e.1
        · simp only [Value.iface.injEq] at e; exact .inr (.inl e.1)
        · obtain ⟨_, _, _, e, _⟩ := e
          simp only [Value.iface.injEq] at e; exact .inr (.inr e.1)
      obtain ⟨L, eL⟩ : ∃ L, L = E.length := ⟨_, rfl⟩
      rw [← eL] at HF ⊢
      clear hc hok hbm hm hE hnode hs h0 eL
      rcases hcs with rfl | rfl | rfl
      all_goals
        go_enter Tryz.func58, Tryz.ntmps58
        go_wp2_with fail
        go_ret
        exact HF.out
  | @go t u e x hv hp he ih =>
    intro v E w hc hok hf hbm hm hE hcell
    obtain ⟨h0, rfl, hk⟩ := hv
    obtain ⟨v', vr, e', hnode, _⟩ := hf
    obtain ⟨rfl, rfl⟩ := List.cons.inj e'
    have hu : v = .iface 63 (.int .i64 t.1.2.1) := by
      rcases hnode with ⟨_, e⟩ | ⟨e, _⟩ | ⟨e, _⟩ | ⟨e, _⟩
      · exact e
      · omega
      · omega
      · omega
    subst hu
    have hcb := hok.1
    rw [h0] at hcb
    have hvr : 0 ≤ t.1.2.1 ∧ t.1.2.1 ≤ 1000000 := by simp [cellB] at hcb; exact ⟨hcb.1, hcb.2.1⟩
    obtain ⟨x, ex⟩ : ∃ x, x = t.1.2.1 := ⟨_, rfl⟩
    rw [← ex] at hvr hp
    obtain ⟨vu, hl, hfu⟩ := hbm.1 x u hp
    obtain ⟨tu, yu, rfl⟩ := FoIn.iface (show FoIn W0 Bt (.node u.1 u.2 .nil) [vu] from hfu)
    have hlk := hm.look (t := 88) Tryz.underlying88 (zeroTerm w) x hvr.1 hvr.2
    rw [hl] at hlk
    simp only [Option.isSome_some] at hlk
    have HI := ih (.iface tu yu) E w hc ((hc.wf hwf).ok _ _ hp) hfu hbm hm hE hcell
    have HX : Hid (∀ P', Cut P' M → ∃ u', P' x = some u' ∧ EndB P' u' e) := fun P' hc' => by
      have h1 : EndB P t e := .go ⟨h0, ex.symm, hk⟩ hp he
      have h2 := (hc'.wf hwf).endB t
      rw [hc'.endB hwf t, ← hc.endB hwf t, endB_eq h1] at h2
      cases h2 with
      | stay hs =>
        cases hm' : M x with
        | none => rw [hc.1 x hm'] at hp; cases hp
        | some z =>
          obtain ⟨z', hz, _⟩ := hc'.2 x z hm'
          rw [hs x ⟨h0, ex.symm, hk⟩] at hz; cases hz
      | go hv' hp' he' =>
        have e0 := hv'.2.1
        rw [← ex] at e0
        subst e0
        exact ⟨_, hp', he'⟩
    have a1 := isVar
    have HC : Hid (∀ w' : World, w.grownBy w' (some b) → w'.cell? ⟨ub, 0, none⟩ = some (.map (some b))) := fun w' hg => by
      have hlt := World.block_lt_of_cell? _ _ hcell
      have hb := hg.block ub hlt (fun e => hne (Option.some.inj e))
      unfold World.cell? at hcell ⊢
      simp only at hcell ⊢
      rw [hb]; exact hcell
    obtain ⟨L, eL⟩ : ∃ L, L = E.length := ⟨_, rfl⟩
    have HEL : Hid (L ≤ 100000) := by rw [eL]; exact hE
    rw [← eL] at HI ⊢
    rw [← ex]
    clear hc hok hbm hm hE hnode ih hcb hp hl hfu he eL h0 hk ex
    go_enter Tryz.func58, Tryz.ntmps58
    go_wp2_with fail
    refine HI.mono ?_
    rintro r w1 ⟨v1, P1, E1, rfl, hf1, hc1, hbm1, hm1, hL1, hg1⟩
    obtain ⟨t1, y1, rfl⟩ := FoIn.iface (show FoIn W0 Bt (.node e.1 e.2 .nil) [v1] from hf1)
    obtain ⟨u', hp', he'⟩ := HX.out P1 hc1
    obtain ⟨w2, hrun, hm2, hg2⟩ := hm1.put (t := 88) Tryz.underlying88 (by rw [hL1]; have := HEL.out; omega) x hvr.1 hvr.2 (.iface t1 y1)
    have hlen : (putE E1 x (.iface t1 y1)).length = L := by
      obtain ⟨vq, hq, _⟩ := hbm1.1 x u' hp'
      rw [putE_len, hq, hL1]; rfl
    have HF : Hid (FolOut W0 Bt M b L e w (.returned (.iface t1 y1)) w2) := ⟨_, P1.set x e, _, rfl, hf1, hc1.cut hp' he', hbm1.set hf1, hm2.tight, hlen, hg1.andThen hg2 (fun j hj => .inr hj)⟩
    have c1 := HC.out w1 hg1
    clear hf1 hc1 hbm1 hm1 hL1 hg1 hp' he' hm2 hg2 hlen HX HI hcell hlk
    go_wp2_with fail
    go_ret
    exact HF.out
end Go.Proofs.YtaakpdakeolgeaaGreat

namespace Go.Proofs.YtaakpdakeolgeaaGreat
open Go Go.RowKit Go.Maps
set_option linter.unusedVariables false
def tcs (t : Tr) : List Cel := t.1 :: t.2.cells
theorem tcs_fo (t : Tr) : t.fo.cells = tcs t := by simp [Tr.fo, Fo.cells, tcs]
def wgt (P : BM) (x : Int) : Nat := match P x with | some u => (tcs u).length | none => 0
def phi (P : BM) (E : List (Int × Value)) : List Int → Nat
  | [] => 0
  | x :: r => (if (look E x).isSome = true then 0 else wgt P x) + phi P E r
theorem phi_mono {P : BM} {E E' : List (Int × Value)} (h : ∀ x, (look E x).isSome = true → (look E' x).isSome = true) : ∀ K : List Int, phi P E' K ≤ phi P E K
  | [] => Nat.le_refl _
  | x :: r => by
    have ih := phi_mono (P := P) h r
    unfold phi
    by_cases h1 : (look E x).isSome = true
    · rw [if_pos h1, if_pos (h x h1)]; omega
    · rw [if_neg h1]
      split <;> omega
theorem some_putE {E : List (Int × Value)} {x y : Int} {v : Value} : (look (putE E x v) y).isSome = true ↔ y = x ∨ (look E y).isSome = true := by
  rw [look_putE]
  by_cases e : y = x
  · simp [e]
  · simp [e]
theorem phi_put {P : BM} {E : List (Int × Value)} {x : Int} {v : Value} {u : Tr} (hp : P x = some u) (hn : look E x = none) : ∀ K : List Int, x ∈ K → phi P (putE E x v) K + (tcs u).length ≤ phi P E K
  | [], h => by cases h
  | y :: r, h => by
    have hm : phi P (putE E x v) r ≤ phi P E r := phi_mono (fun z hz => some_putE.2 (.inr hz)) r
    unfold phi
    by_cases e : y = x
    · subst e
      rw [if_pos (some_putE.2 (.inl rfl)), if_neg (by rw [hn]; simp)]
      have : wgt P y = (tcs u).length := by unfold wgt; rw [hp]
      omega
    · have h' : x ∈ r := by
        rcases List.mem_cons.1 h with h | h
        · exact absurd h.symm e
        · exact h
      have ih := phi_put (v := v) hp hn r h'
      have e2 : look (putE E x v) y = look E y := by rw [look_putE, if_neg e]
      rw [e2]
      omega
structure MRel (P : BM) (K : List Int) (cs : List Cel) (E E' : List (Int × Value)) : Prop where
  cost : E'.length + phi P E' K ≤ E.length + phi P E K + cs.length
  mono : ∀ x, (look E x).isSome = true → (look E' x).isSome = true
  vars : ∀ c ∈ cs, c.1 = 0 → (look E' c.2.1).isSome = true
  news : ∀ x, (look E' x).isSome = true → (look E x).isSome = true ∨ ((∃ c ∈ cs, c.1 = 0 ∧ Reaches P x c.2.1) ∧ ∀ u, P x = some u → ∀ y ∈ vsT u, (look E' y).isSome = true)
theorem MRel.refl (P : BM) (K : List Int) (E : List (Int × Value)) : MRel P K [] E E := ⟨by simp, fun _ h => h, fun c hc => (by cases hc), fun x h => .inl h⟩
theorem MRel.app {P : BM} {K : List Int} {cs ds : List Cel} {E F G : List (Int × Value)} (h : MRel P K cs E F) (h' : MRel P K ds F G) : MRel P K (cs ++ ds) E G := by
  refine ⟨by have := h.cost; have := h'.cost; simp only [List.length_append]; omega, fun x hx => h'.mono x (h.mono x hx), fun c hc h0 => ?_, fun x hx => ?_⟩
  · rcases List.mem_append.1 hc with hc | hc
    · exact h'.mono _ (h.vars c hc h0)
    · exact h'.vars c hc h0
  · rcases h'.news x hx with hx | ⟨⟨c, hc, h0, hr⟩, hn⟩
    · rcases h.news x hx with hx | ⟨⟨c, hc, h0, hr⟩, hn⟩
      · exact .inl hx
      · exact .inr ⟨⟨c, List.mem_append.2 (.inl hc), h0, hr⟩, fun u hu y hy => h'.mono _ (hn u hu y hy)⟩
    · exact .inr ⟨⟨c, List.mem_append.2 (.inr hc), h0, hr⟩, hn⟩
theorem MRel.skip (P : BM) (K : List Int) (c : Cel) (E : List (Int × Value)) (h : c.1 = 0 → (look E c.2.1).isSome = true) : MRel P K [c] E E := ⟨by simp, fun _ h => h, fun d hd h0 => by simp at hd; subst hd; exact h h0, fun x h => .inl h⟩
theorem MRel.free {P : BM} (K : List Int) {c : Cel} (h0 : c.1 = 0) (E : List (Int × Value)) (v : Value) (h : P c.2.1 = none) : MRel P K [c] E (putE E c.2.1 v) := by
  refine ⟨?_, fun x hx => some_putE.2 (.inr hx), fun d hd _ => ?_, fun x hx => ?_⟩
  · have h1 := putE_len E c.2.1 v
    have h2 : phi P (putE E c.2.1 v) K ≤ phi P E K := phi_mono (fun z hz => some_putE.2 (.inr hz)) K
    simp only [List.length_singleton]
    split at h1 <;> omega
  · simp at hd; subst hd; exact some_putE.2 (.inl rfl)
  · rcases some_putE.1 hx with rfl | hx
    · exact .inr ⟨⟨c, by simp, h0, .inl rfl⟩, fun u hu => by rw [h] at hu; cases hu⟩
    · exact .inl hx
theorem cell_vs : ∀ (F : Fo) (c : Cel), c ∈ F.cells → c.1 = 0 → c.2.1 ∈ vsF F
  | .nil, c, h, _ => by cases h
  | .node d k r, c, h, h0 => by
    simp only [Fo.cells, List.mem_cons, List.mem_append] at h
    rw [vs_node]
    rcases h with rfl | h | h
    · exact .inl ⟨h0, rfl⟩
    · exact .inr (.inl (cell_vs k c h h0))
    · exact .inr (.inr (cell_vs r c h h0))
theorem vs_cell : ∀ (F : Fo) (x : Int), x ∈ vsF F → ∃ c ∈ F.cells, c.1 = 0 ∧ c.2.1 = x
  | .nil, x, h => by cases h
  | .node d k r, x, h => by
    rcases (vs_node d k r x).1 h with ⟨h0, rfl⟩ | h | h
    · exact ⟨d, by simp [Fo.cells], h0, rfl⟩
    · obtain ⟨c, hc, h1⟩ := vs_cell k x h
      exact ⟨c, by simp [Fo.cells, hc], h1⟩
    · obtain ⟨c, hc, h1⟩ := vs_cell r x h
      exact ⟨c, by simp [Fo.cells, hc], h1⟩
theorem mem_vsT (t : Tr) (x : Int) : x ∈ vsT t ↔ ∃ c ∈ tcs t, c.1 = 0 ∧ c.2.1 = x := by
  rw [← tcs_fo]
  constructor
  · exact fun h => vs_cell _ x h
  · rintro ⟨c, hc, h0, rfl⟩; exact cell_vs _ c hc h0
theorem MRel.into {P : BM} {K : List Int} {c : Cel} (h0 : c.1 = 0) {E E' : List (Int × Value)} {v : Value} {u : Tr} (h : P c.2.1 = some u) (hn : look E c.2.1 = none) (hk : c.2.1 ∈ K) (hr : MRel P K (tcs u) (putE E c.2.1 v) E') : MRel P K [c] E E' := by
  have hin : ∀ y ∈ vsT u, (look E' y).isSome = true := fun y hy => by
    obtain ⟨d, hd, d0, rfl⟩ := (mem_vsT u y).1 hy
    exact hr.vars d hd d0
  refine ⟨?_, fun x hx => hr.mono x (some_putE.2 (.inr hx)), fun d hd _ => ?_, fun x hx => ?_⟩
  · have h1 := putE_len E c.2.1 v
    rw [hn] at h1
    simp only [Option.isSome_none, Bool.false_eq_true, if_false] at h1
    have h2 := phi_put (v := v) h hn K hk
    have h3 := hr.cost
    simp only [List.length_singleton]
    omega
  · simp at hd; subst hd; exact hr.mono _ (some_putE.2 (.inl rfl))
  · rcases hr.news x hx with hx | ⟨⟨d, hd, d0, hq⟩, hn⟩
    · rcases some_putE.1 hx with rfl | hx
      · exact .inr ⟨⟨c, by simp, h0, .inl rfl⟩, fun u' hu' => by rw [h] at hu'; cases hu'; exact hin⟩
      · exact .inl hx
    · exact .inr ⟨⟨c, by simp, h0, .of_mem h ((mem_vsT u _).2 ⟨d, hd, d0, rfl⟩) hq⟩, hn⟩
theorem MRel.reach {P : BM} {K : List Int} {t : Tr} {E' : List (Int × Value)} (h : MRel P K (tcs t) [] E') (v : Int) : (look E' v).isSome = true ↔ Reach P t v := by
  constructor
  · intro hv
    rcases h.news v hv with hv | ⟨⟨c, hc, h0, hr⟩, _⟩
    · simp [look] at hv
    · exact Reach.of_reaches ((mem_vsT t _).2 ⟨c, hc, h0, rfl⟩) hr
  · have main : ∀ {t : Tr} {v : Int}, Reach P t v → (∀ x ∈ vsT t, (look E' x).isSome = true) → (look E' v).isSome = true := by
      intro t v hr
      induction hr with
      | here hv => exact fun ha => ha _ hv
      | @thro t u x v hx hm _ ih =>
        intro ha
        refine ih fun y hy => ?_
        rcases h.news x (ha x hx) with hx | ⟨_, hn⟩
        · simp [look] at hx
        · exact hn u hm y hy
    intro hr
    refine main hr fun x hx => ?_
    obtain ⟨c, hc, h0, rfl⟩ := (mem_vsT t x).1 hx
    exact h.vars c hc h0
theorem VMap.putBig {w : World} {b N : Nat} {E : List (Int × Value)} (h : VMap w b N E) {t e : TypeId} (ht : Tryz.prog.underlying t = some (.map 63 e)) (hN : N ≤ 100000000) (x : Int) (h0 : 0 ≤ x) (h1 : x ≤ 1000000) (v : Value) :
    ∃ w', (Instr.mapUpdate t (.map (some b)) (.int .i64 x) v).run Tryz.prog w = .ok () w' ∧ VMap w' b (N + 1) (putE E x v) ∧ w.grownBy w' (some b) := by
  obtain ⟨D, hown, hsz, hhas, hat⟩ := h
  obtain ⟨w', hrun, hown', hg⟩ := hown.update lawVar ht (by unfold maxLen; omega) (key_of x h0 h1) (show anyE v = some (.held v, []) from rfl)
  have hm := hown.isMap
  have hkl : WideAt.IsKeyLit (.int .i64 x) := trivial
  refine ⟨w', hrun, ⟨_, hown', ?_, fun y => ?_, fun y z => ?_⟩, hg⟩
  · rw [size_put (hown.tidy lawVar), hhas, hsz, putE_len]
  · rw [look_putE]
    by_cases e : y = x
    · subst e; rw [has_put_same hm hkl]; simp
    · rw [has_put_other (by simpa using e), hhas]; simp [e]
  · rw [look_putE]
    by_cases e : y = x
    · subst e
      rw [atKey_put_same hm hkl]; simp
    · rw [atKey_put_other (by simpa using e), hat]; simp [e]
end Go.Proofs.YtaakpdakeolgeaaGreat

namespace Go.Proofs.YtaakpdakeolgeaaGreat
open Go Go.RowKit
set_option linter.unusedVariables false
theorem zeroUnit (w : World) : (zeroValue 151).run Tryz.prog w = .ok (.agg #[]) w := by kernel_rfl
structure MeK (W0 : World) (EP : List (Int × Value)) (b ub mb : Nat) (W : World) : Prop where
  low : Below W0.heap.size W0 W
  ubc : W.cell? ⟨ub, 0, none⟩ = some (.map (some b))
  bnd : VMap W b EP.length EP
theorem cell_grown {w w' : World} {b mb : Nat} {v : Value} {o : Nat} (h : w.cell? ⟨b, o, none⟩ = some v) (hg : w.grownBy w' (some mb)) (hne : b ≠ mb) : w'.cell? ⟨b, o, none⟩ = some v := by
  have hlt := World.block_lt_of_cell? _ _ h
  have hb := hg.block b hlt (fun e => hne (Option.some.inj e))
  exact (World.cell?_of_block (a := ⟨b, o, none⟩) hb).trans h
theorem cell_map_ne {w : World} {b mb N : Nat} {E : List (Int × Value)} {v : Value} {o : Nat} (h : w.cell? ⟨b, o, none⟩ = some v) (hm : VMap w mb N E) : b ≠ mb := fun e => by
  obtain ⟨D, ⟨es, clock, h1, _⟩, _⟩ := hm
  subst e
  simp [World.cell?, h1] at h
theorem MeK.grown {W0 : World} {EP : List (Int × Value)} {b ub mb N : Nat} {E : List (Int × Value)} {W W' : World} (h : MeK W0 EP b ub mb W) (hm : VMap W mb N E) (hne : b ≠ mb) (hlow : W0.heap.size ≤ mb) (hg : W.grownBy W' (some mb)) : MeK W0 EP b ub mb W' :=
  ⟨h.low.grown hg h.low.size (fun k e => by cases e; exact hlow), cell_grown h.ubc hg (cell_map_ne h.ubc hm), h.bnd.of_block (hg.block b h.bnd.lt (fun e => hne (Option.some.inj e)))⟩
def VMet (w : World) (mb : Nat) (E : List (Int × Value)) : Prop := VMap w mb E.length E ∧ ∀ x y, look E x = some y → y = .agg #[]
theorem VMet.put {w : World} {mb N : Nat} {E : List (Int × Value)} {x : Int} (h : VMap w mb N (putE E x (.agg #[]))) (hu : ∀ x y, look E x = some y → y = .agg #[]) : VMet w mb (putE E x (.agg #[])) := ⟨h.tight, fun z y hz => by
  rw [look_putE] at hz
  split at hz
  · cases hz; rfl
  · exact hu z y hz⟩
theorem VMap.allocd {w : World} {b N : Nat} {E : List (Int × Value)} (h : VMap w b N E) (o : Obj) : VMap (w.alloc o) b N E := h.of_block (Below.heap_alloc _ _ _ h.lt)
def MeOut (P : BM) (K : List Int) (mb : Nat) (cs : List Cel) (E : List (Int × Value)) (w : World) (e : Ending) (w' : World) : Prop := e = .returned (.tuple #[]) ∧ ∃ E', MRel P K cs E E' ∧ VMet w' mb E' ∧ w.grownBy w' (some mb)
def MeetOk (W0 : World) (Bt : Nat) (P : BM) (EP : List (Int × Value)) (b ub mb m : Nat) : Prop := ∀ (t : Tr) (v : Value) (E : List (Int × Value)) (w : World), phi P E (EP.map Prod.fst) ≤ m → t.fo.ok → FoIn W0 Bt t.fo [v] → MeK W0 EP b ub mb w → VMet w mb E → E.length + phi P E (EP.map Prod.fst) + (tcs t).length ≤ 90000000 →
  Calls Tryz.prog 88 #[.pointer (some ⟨ub, 0, none⟩), v, .map (some mb)] w (MeOut P (EP.map Prod.fst) mb (tcs t) E w)
section
variable (W0 : World) (Bt : Nat) (P : BM) (EP : List (Int × Value)) (b ub mb : Nat)
set_option maxRecDepth 100000 in
set_option maxHeartbeats 1000000 in
theorem meetVisit_any (hbm : BMIn W0 Bt P EP) (hPok : ∀ x u, P x = some u → u.fo.ok ∧ (tcs u).length ≤ 2000) (hne : b ≠ mb) (hlow : W0.heap.size ≤ mb) (m : Nat) (hI : ∀ k, k < m → MeetOk W0 Bt P EP b ub mb k) (mx ux : Nat) (c : Cel) (k : Fo) (v : Value) (E : List (Int × Value)) (w : World)
    (hphi : phi P E (EP.map Prod.fst) ≤ m) (hok : (Fo.node c k .nil).ok) (hn : NodeIn W0 Bt c (fun kv => FoIn W0 Bt k kv) v) (hk : MeK W0 EP b ub mb w) (hmu : VMet w mb E) (hmx : w.cell? ⟨mx, 0, none⟩ = some (.map (some mb))) (hux : w.cell? ⟨ux, 0, none⟩ = some (.pointer (some ⟨ub, 0, none⟩))) (hbig : E.length + phi P E (EP.map Prod.fst) + 1 ≤ 90000000) :
    Calls Tryz.prog 93 #[v, .pointer (some ⟨mx, 0, none⟩), .pointer (some ⟨ux, 0, none⟩)] w (MeOut P (EP.map Prod.fst) mb [c] E w) := by
  have a1 := isVar
  obtain ⟨hm0, hu⟩ := hmu
  have hm := hm0.allocd (.cells #[] 151)
  have hgz := World.grownBy_alloc w (.cells #[] 151) (some mb)
  have hkz := hk.grown hm0 hne hlow hgz
  have hmxz : (w.alloc (.cells #[] 151)).cell? ⟨mx, 0, none⟩ = some (.map (some mb)) := cell_grown hmx hgz (cell_map_ne hmx hm0)
  have huxz : (w.alloc (.cells #[] 151)).cell? ⟨ux, 0, none⟩ = some (.pointer (some ⟨ub, 0, none⟩)) := cell_grown hux hgz (cell_map_ne hux hm0)
  by_cases h0 : c.1 = 0
  · have hv : v = .iface 63 (.int .i64 c.2.1) := by
      rcases hn with ⟨_, e⟩ | ⟨e, _⟩ | ⟨e, _⟩ | ⟨e, _⟩
      · exact e
      · omega
      · omega
      · omega
    subst hv
    have hcb := hok.1
    rw [h0] at hcb
    have hx : 0 ≤ c.2.1 ∧ c.2.1 ≤ 1000000 := by simp [cellB] at hcb; exact ⟨hcb.1, hcb.2.1⟩
    have hlk := hm0.look (t := 149) Tryz.underlying149 (zeroUnit w) c.2.1 hx.1 hx.2
    cases hl : look E c.2.1 with
    | some y =>
      rw [hl] at hlk
      simp only [Option.isSome_some] at hlk
      have hy := hu _ _ hl
      subst hy
      have HF : Hid (MeOut P (EP.map Prod.fst) mb [c] E w (.returned (.tuple #[])) (w.alloc (.cells #[] 151))) := ⟨rfl, E, .skip _ _ _ _ (fun _ => by rw [hl]; rfl), ⟨hm, hu⟩, hgz⟩
      obtain ⟨x, ex⟩ : ∃ x, x = c.2.1 := ⟨_, rfl⟩
      rw [← ex] at hlk ⊢
      clear hbm hPok hI hphi hok hn hk hm hux hbig hcb hx hl h0 ex hm0 hu hgz hkz hmxz huxz
      go_enter Tryz.func93, Tryz.ntmps93
      go_wp2_with fail
      go_end0
      exact HF.out
    | none =>
      rw [hl] at hlk
      simp only [Option.isSome_none] at hlk
      obtain ⟨w1, hrun, hm1, hg1⟩ := hm.putBig (t := 149) Tryz.underlying149 (by omega) c.2.1 hx.1 hx.2 (.agg #[])
      have hk1 := hkz.grown hm hne hlow hg1
      have hmx1 := cell_grown hmxz hg1 (cell_map_ne hmxz hm)
      have hux1 := cell_grown huxz hg1 (cell_map_ne huxz hm)
      have hg1' := hgz.andThen hg1 (fun j hj => .inr hj)
      have hub1 := hk1.ubc
      have hlb := hk1.bnd.look (t := 88) Tryz.underlying88 (zeroTerm w1) c.2.1 hx.1 hx.2
      cases hp : P c.2.1 with
      | none =>
        rw [hbm.2 _ hp] at hlb
        simp only [Option.isSome_none] at hlb
        have HF : Hid (MeOut P (EP.map Prod.fst) mb [c] E w (.returned (.tuple #[])) w1) := ⟨rfl, _, .free _ h0 E (.agg #[]) hp, .put hm1 hu, hg1'⟩
        obtain ⟨x, ex⟩ : ∃ x, x = c.2.1 := ⟨_, rfl⟩
        rw [← ex] at hlk hlb hrun ⊢
        clear hbm hPok hI hphi hok hn hk hm hbig hcb hx hl h0 ex hk1 hm1 hg1 hp hm0 hu hgz hkz hg1' hux
        go_enter Tryz.func93, Tryz.ntmps93
        go_wp2_with fail
        go_end0
        exact HF.out
      | some u =>
        obtain ⟨vu, hlu, hfu⟩ := hbm.1 _ _ hp
        rw [hlu] at hlb
        simp only [Option.isSome_some] at hlb
        have hK : c.2.1 ∈ EP.map Prod.fst := by
          cases hq : decide (c.2.1 ∈ EP.map Prod.fst) with
          | true => exact of_decide_eq_true hq
          | false => rw [(look_none EP c.2.1).2 (of_decide_eq_false hq)] at hlu; cases hlu
        have hpp := phi_put (v := .agg #[]) hp hl _ hK
        have hpos : 1 ≤ (tcs u).length := by simp [tcs]
        have hlen := putE_len E c.2.1 (.agg #[])
        rw [hl] at hlen
        simp only [Option.isSome_none, Bool.false_eq_true, if_false] at hlen
        obtain ⟨uo, _⟩ := hPok _ _ hp
        have HI := hI (phi P (putE E c.2.1 (.agg #[])) (EP.map Prod.fst)) (by omega) u vu (putE E c.2.1 (.agg #[])) w1 (Nat.le_refl _) uo hfu hk1 (.put hm1 hu) (by omega)
        have HO : Hid (∀ e w', MeOut P (EP.map Prod.fst) mb (tcs u) (putE E c.2.1 (.agg #[])) w1 e w' → MeOut P (EP.map Prod.fst) mb [c] E w e w') := fun e w' ⟨h1, E', h2, h3, h4⟩ => ⟨h1, E', .into h0 hp hl hK h2, h3, hg1'.andThen h4 (fun j hj => .inr hj)⟩
        have HI2 := HI.mono HO.out
        have HI3 := HI2.mono (fun e w' h => (⟨h.1, h⟩ : e = .returned (.tuple #[]) ∧ MeOut P (EP.map Prod.fst) mb [c] E w e w'))
        obtain ⟨x, ex⟩ : ∃ x, x = c.2.1 := ⟨_, rfl⟩
        rw [← ex] at hlk hlb hrun ⊢
        clear hbm hPok hI hphi hok hn hk hm hbig hcb hx hl h0 ex hk1 hm1 hg1 hp hlu hfu hK hpp hpos hlen uo HI HI2 HO hm0 hu hgz hkz hg1' hux
        go_enter Tryz.func93, Tryz.ntmps93
        go_wp2_with fail
        refine HI3.mono ?_
        rintro e w2 ⟨rfl, hfin⟩
        have HF : Hid (MeOut P (EP.map Prod.fst) mb [c] E w (.returned (.tuple #[])) w2) := hfin
        clear hfin HI3
        go_wp2_with fail
        go_end0
        exact HF.out
  · have hty : ∃ t y, v = .iface t y ∧ ∀ W, (Instr.typeAssert (.iface t y) 57 63 true).run Tryz.prog W = .ok (.tuple #[.int .i64 0, .bool false]) W := by
      rcases hn with ⟨e, _⟩ | ⟨_, e⟩ | ⟨_, e⟩ | ⟨_, b, g, vs, e, _⟩
      · exact absurd e h0
      · exact ⟨_, _, e, fun W => noVar_num W _⟩
      · exact ⟨_, _, e, fun W => noVar_atom W _⟩
      · exact ⟨_, _, e, fun W => noVar_comp W _⟩
    obtain ⟨t, y, rfl, a2⟩ := hty
    have HF : Hid (MeOut P (EP.map Prod.fst) mb [c] E w (.returned (.tuple #[])) (w.alloc (.cells #[] 151))) := ⟨rfl, E, .skip _ _ _ _ (fun h => absurd h h0), ⟨hm, hu⟩, hgz⟩
    have HF2 : Hid (MeOut P (EP.map Prod.fst) mb [c] E w (.returned (.tuple #[])) w) := ⟨rfl, E, .skip _ _ _ _ (fun h => absurd h h0), ⟨hm0, hu⟩, .refl _ _⟩
    clear hbm hPok hI hphi hok hn hk hm hux hbig h0 a1 hm0 hu hgz hkz hmxz huxz
    go_enter Tryz.func93, Tryz.ntmps93
    go_wp2_with fail
    go_end0
    first | exact HF.out | exact HF2.out
end
end Go.Proofs.YtaakpdakeolgeaaGreat

