/- Texts of FuP, FuQ, FuS, FuA. Own work of the verifier. -/
import Derived.Test.YtaakpdakeolgeaaGreatUqax
import Derived.Test.YtaakpdakeolgeaaGreatUqar
import Derived.Test.YtaakpdakeolgeaaGreatUqbc
import Derived.Test.YtaakpdakeolgeaaGreatUqbd
namespace Go.Proofs.YtaakpdakeolgeaaGreat
open Go Go.RowKit
set_option linter.unusedVariables false
def turnP (p : TT) : TT := (p.2, p.1)
theorem zip_turn : ∀ (a b : List Tr), b.zip a = (a.zip b).map turnP
  | [], [] => rfl
  | [], _ :: _ => rfl
  | _ :: _, [] => rfl
  | x :: a, y :: b => by simp [turnP, zip_turn a b]
theorem step_turn (cF cC : Int) (M : BM) (x y : Tr) : stepE cF cC M y x = match stepE cF cC M x y with
    | .error c => .error c
    | .ok (M', qs) => .ok (M', qs.map turnP) := by
  unfold stepE
  by_cases hx : x.1.1 = 0
  · by_cases hy : y.1.1 = 0
    · rcases Int.lt_trichotomy x.1.2.1 y.1.2.1 with h | h | h
      · have h2 : ¬ y.1.2.1 < x.1.2.1 := by omega
        simp [hx, hy, h, h2]
      · have h1 : ¬ x.1.2.1 < y.1.2.1 := by omega
        have h2 : ¬ y.1.2.1 < x.1.2.1 := by omega
        simp [hx, hy, h1, h2]
      · have h2 : ¬ x.1.2.1 < y.1.2.1 := by omega
        simp [hx, hy, h, h2]
    · by_cases hr : Reach M y x.1.2.1
      · simp [hx, hy, hr]
      · simp [hx, hy, hr]
  · by_cases hy : y.1.1 = 0
    · by_cases hr : Reach M x y.1.2.1
      · simp [hx, hy, hr]
      · simp [hx, hy, hr]
    · by_cases h : x.1 = y.1
      · simp only [hx, hy, false_and, if_false, if_pos h, if_pos h.symm]
        rw [zip_turn]
      · have h2 : ¬ y.1 = x.1 := fun e => h e.symm
        simp [hx, hy, h, h2]
theorem run_turn (cF cC cL : Int) : ∀ (k : Nat) (M : BM) (ps : List TT), runU cF cC cL k M (ps.map turnP) = runU cF cC cL k M ps
  | k, M, [] => rfl
  | 0, M, p :: ps => rfl
  | k + 1, M, p :: ps => by
    simp only [List.map_cons, runU]
    rw [show (turnP p).1 = p.2 from rfl, show (turnP p).2 = p.1 from rfl, step_turn]
    cases h : stepE cF cC M (endB M p.1) (endB M p.2) with
    | error c => rfl
    | ok r =>
      obtain ⟨M', qs⟩ := r
      simp only
      rw [← List.map_append, run_turn cF cC cL k M' (qs ++ ps)]
def appF (f : Int → Tr) : Fo → Fo
  | .nil => .nil
  | .node c k r => if c.1 = 0 then .node (f c.2.1).1 (f c.2.1).2 (appF f r) else .node c (appF f k) (appF f r)
def appT (f : Int → Tr) (t : Tr) : Tr := if t.1.1 = 0 then f t.1.2.1 else (t.1, appF f t.2)
theorem appT_fo (f : Int → Tr) (t : Tr) : appF f t.fo = (appT f t).fo := by
  unfold appT
  by_cases h : t.1.1 = 0
  · simp [Tr.fo, appF, h]
  · simp [Tr.fo, appF, h]
theorem appF_trs (f : Int → Tr) : ∀ F : Fo, trs (appF f F) = (trs F).map (appT f)
  | .nil => rfl
  | .node c k r => by
    by_cases h : c.1 = 0
    · simp [appF, trs, appT, h, appF_trs f r]
    · simp [appF, trs, appT, h, appF_trs f r]
def szF : Fo → Nat
  | .nil => 0
  | .node c k r => 1 + szF k + szF r
def szT (t : Tr) : Nat := 1 + szF t.2
theorem sz_var (f : Int → Tr) (v : Int) : ∀ F : Fo, F.ok → v ∈ vsF F → szT (f v) ≤ szF (appF f F)
  | .nil, _, h => by simp [vsF] at h
  | .node c k r, ho, h => by
    simp only [vsF, List.mem_append] at h
    by_cases h0 : c.1 = 0
    · have hk : k = .nil := ho.2.2.2.1 (by rw [h0]; decide)
      simp only [appF, if_pos h0, szF]
      rw [if_pos h0, hk] at h
      rcases h with h | h | h
      · obtain rfl := List.mem_singleton.1 h
        unfold szT; omega
      · cases h
      · have := sz_var f v r ho.2.2.2.2.2 h; omega
    · simp only [appF, if_neg h0, szF]
      rw [if_neg h0] at h
      rcases h with h | h | h
      · cases h
      · have := sz_var f v k ho.2.2.2.2.1 h; omega
      · have := sz_var f v r ho.2.2.2.2.2 h; omega
def Uni (f : Int → Tr) (M : BM) : Prop := ∀ v u, M v = some u → f v = appT f u
theorem appT_var {f : Int → Tr} {t : Tr} {v : Int} (h : IsV t v) : appT f t = f v := by
  unfold appT
  rw [if_pos h.1, h.2.1]
theorem Uni.ends {f : Int → Tr} {M : BM} (h : Uni f M) {t e : Tr} (he : EndB M t e) : appT f t = appT f e := by
  induction he with
  | stay _ => rfl
  | go hv hm _ ih => rw [appT_var hv, h _ _ hm, ih]
theorem szT_app (f : Int → Tr) (t : Tr) : szT (appT f t) = szF (appF f t.fo) := by
  rw [appT_fo]; simp [Tr.fo, szF, szT]
theorem Uni.reach {f : Int → Tr} {M : BM} (h : Uni f M) (hok : ∀ v u, M v = some u → u.fo.ok) {t : Tr} {v : Int} (hr : Reach M t v) : t.fo.ok → szT (f v) ≤ szT (appT f t) := by
  induction hr with
  | @here t v hv => exact fun ho => by rw [szT_app]; exact sz_var f v t.fo ho hv
  | @thro t u w v hw hm _ ih =>
    intro ho
    have h1 := ih (hok _ _ hm)
    rw [← h _ _ hm] at h1
    have h2 := sz_var f w t.fo ho hw
    rw [← szT_app] at h2
    omega
theorem Uni.reach_lt {f : Int → Tr} {M : BM} (h : Uni f M) (hok : ∀ v u, M v = some u → u.fo.ok) {t : Tr} {v : Int} (hr : Reach M t v) (ho : t.fo.ok) (h0 : t.1.1 ≠ 0) : szT (f v) < szT (appT f t) := by
  have key : ∀ w, w ∈ vsT t → szT (f w) < szT (appT f t) := fun w hw => by
    obtain ⟨c, k⟩ := t
    simp only at h0
    simp only [vsT, vsF, if_neg h0, List.nil_append, List.append_nil] at hw
    have h1 := sz_var f w k ho.2.2.2.2.1 hw
    simp only [appT, if_neg h0, szT] at h1 ⊢
    omega
  cases hr with
  | here hv => exact key _ hv
  | thro hw hm hr' =>
    have h1 := h.reach hok hr' (hok _ _ hm)
    rw [← h _ _ hm] at h1
    have h2 := key _ hw
    omega
theorem Uni.step {f : Int → Tr} {M : BM} (h : Uni f M) (hok : ∀ v u, M v = some u → u.fo.ok) {cF cC : Int} {x y : Tr} (ox : x.fo.ok) (oy : y.fo.ok) (he : appT f x = appT f y) :
    ∃ M' qs, stepE cF cC M x y = .ok (M', qs) ∧ Uni f M' ∧ ∀ p ∈ qs, appT f p.1 = appT f p.2 := by
  have hset : ∀ z T, f z = appT f T → Uni f (M.set z T) := fun z T hz v u hv => by
    simp only [BM.set] at hv
    by_cases e : v = z
    · rw [if_pos e] at hv; cases hv; rw [e]; exact hz
    · rw [if_neg e] at hv; exact h v u hv
  have no : ∀ p ∈ ([] : List TT), appT f p.1 = appT f p.2 := fun p hp => by cases hp
  by_cases hx : x.1.1 = 0
  · have ex : appT f x = f x.1.2.1 := appT_var (ok_var ox hx)
    by_cases hy : y.1.1 = 0
    · have ey : appT f y = f y.1.2.1 := appT_var (ok_var oy hy)
      rcases Int.lt_trichotomy x.1.2.1 y.1.2.1 with hl | hl | hl
      · have h2 : ¬ y.1.2.1 < x.1.2.1 := by omega
        exact ⟨M.set y.1.2.1 x, [], by simp [stepE, hx, hy, hl, h2], hset _ _ (by rw [← ey, he]), no⟩
      · have h1 : ¬ x.1.2.1 < y.1.2.1 := by omega
        have h2 : ¬ y.1.2.1 < x.1.2.1 := by omega
        exact ⟨M, [], by simp [stepE, hx, hy, h1, h2], h, no⟩
      · exact ⟨M.set x.1.2.1 y, [], by simp [stepE, hx, hy, hl], hset _ _ (by rw [← ex, he]), no⟩
    · have hr : ¬ Reach M y x.1.2.1 := fun hr => by
        have := h.reach_lt hok hr oy hy
        rw [← he, ex] at this
        omega
      exact ⟨M.set x.1.2.1 y, [], by simp [stepE, hx, hy, hr], hset _ _ (by rw [← ex, he]), no⟩
  · by_cases hy : y.1.1 = 0
    · have ey : appT f y = f y.1.2.1 := appT_var (ok_var oy hy)
      have hr : ¬ Reach M x y.1.2.1 := fun hr => by
        have := h.reach_lt hok hr ox hx
        rw [he, ey] at this
        omega
      exact ⟨M.set y.1.2.1 x, [], by simp [stepE, hx, hy, hr], hset _ _ (by rw [← ey, he]), no⟩
    · simp only [appT, if_neg hx, if_neg hy, Prod.mk.injEq] at he
      refine ⟨M, (trs x.2).zip (trs y.2), by simp [stepE, hy, he.1], h, fun p hp => ?_⟩
      have e2 : (trs x.2).map (appT f) = (trs y.2).map (appT f) := by rw [← appF_trs, ← appF_trs, he.2]
      obtain ⟨i, hi, hp'⟩ := List.mem_iff_getElem.1 hp
      rw [List.getElem_zip] at hp'
      rw [List.length_zip] at hi
      subst hp'
      have h1 : i < ((trs x.2).map (appT f)).length := by rw [List.length_map]; omega
      have h2 := congrArg (fun l => l[i]?) e2
      simp only [List.getElem?_map] at h2
      rw [List.getElem?_eq_getElem (by omega), List.getElem?_eq_getElem (by omega)] at h2
      simpa using h2
theorem Uni.run {f : Int → Tr} {cF cC cL : Int} : ∀ (k : Nat) (M : BM) (ps : List TT), WfU M → Uni f M → (∀ p ∈ ps, p.1.fo.ok ∧ p.2.fo.ok) → (∀ p ∈ ps, appT f p.1 = appT f p.2) →
    runU cF cC cL k M ps = .error cL ∨ ∃ M' k', runU cF cC cL k M ps = .ok (M', k') ∧ Uni f M'
  | k, M, [], hw, hu, _, _ => .inr ⟨M, k, runU_nil .., hu⟩
  | 0, M, p :: ps, hw, hu, _, _ => .inl rfl
  | k + 1, M, p :: ps, hw, hu, hok, he => by
    have hp := hok p (by simp)
    have o1 := hw.end_ok hp.1 (hw.endB p.1)
    have o2 := hw.end_ok hp.2 (hw.endB p.2)
    have e1 := hu.ends (hw.endB p.1)
    have e2 := hu.ends (hw.endB p.2)
    obtain ⟨M', qs, hs, hu', hq⟩ := hu.step (cF := cF) (cC := cC) hw.ok o1 o2 (e1.symm.trans ((he p (by simp)).trans e2))
    obtain ⟨w1, w2⟩ := hw.step (hw.endB p.1).last (hw.endB p.2).last o1 o2 hs
    have := Uni.run (f := f) (cF := cF) (cC := cC) (cL := cL) k M' (qs ++ ps) w1 hu' (fun q hq' => by
      rcases List.mem_append.1 hq' with h | h
      · exact w2 q h
      · exact hok q (by simp [h])) (fun q hq' => by
      rcases List.mem_append.1 hq' with h | h
      · exact hq q h
      · exact he q (by simp [h]))
    simpa only [runU, hs] using this
end Go.Proofs.YtaakpdakeolgeaaGreat

namespace Go.Proofs.YtaakpdakeolgeaaGreat
open Go Go.RowKit
set_option linter.unusedVariables false
def Sm (M : BM) (x y : Tr) : Prop := ∃ g : Tr, FullF M x.fo g.fo ∧ FullF M y.fo g.fo
def Incl (M M' : BM) : Prop := ∀ v u, M v = some u → M' v = some u
theorem Incl.way {M M' : BM} (h : Incl M M') {a b : Tr} (hw : OnWay M a b) : OnWay M' a b := by
  induction hw with
  | here => exact .here
  | on hv hm _ ih => exact .on hv (h _ _ hm) ih
theorem Incl.set {M : BM} {z : Int} {T : Tr} (hz : M z = none) : Incl M (M.set z T) := fun v u h => by
  simp only [BM.set]
  by_cases e : v = z
  · rw [e, hz] at h; cases h
  · rw [if_neg e]; exact h
theorem full_cons {M : BM} {c : Cel} {k r r' : Fo} {g : Tr} (h : FullF M (.node c k .nil) g.fo) (hr : FullF M r r') : FullF M (.node c k r) (.node g.1 g.2 r') := by
  obtain ⟨gc, gk⟩ := g
  unfold Tr.fo at h
  cases h with
  | keep h hk _ => exact .keep h hk hr
  | @put _ _ _ u g' h0 hm hu _ => exact .put h0 hm hu hr
theorem sm_zip {M : BM} : ∀ (a b : Fo), a.count = b.count → (∀ p ∈ (trs a).zip (trs b), Sm M p.1 p.2) → ∃ G, FullF M a G ∧ FullF M b G
  | .nil, .nil, _, _ => ⟨.nil, .nil, .nil⟩
  | .nil, .node _ _ _, h, _ => by simp [Fo.count] at h
  | .node _ _ _, .nil, h, _ => by simp [Fo.count] at h
  | .node c k r, .node c' k' r', h, hp => by
    obtain ⟨G, g1, g2⟩ := sm_zip r r' (by simpa [Fo.count] using h) (fun p hq => hp p (by simp [trs, hq]))
    obtain ⟨g, h1, h2⟩ := hp ((c, k), (c', k')) (by simp [trs])
    exact ⟨.node g.1 g.2 G, full_cons h1 g1, full_cons h2 g2⟩
theorem var_eqP {x y : Tr} (ox : x.fo.ok) (oy : y.fo.ok) (hx : x.1.1 = 0) (hy : y.1.1 = 0) (h : x.1.2.1 = y.1.2.1) : x = y := by
  have key : ∀ {t : Tr}, t.fo.ok → t.1.1 = 0 → t = ((0, t.1.2.1, []), .nil) := fun {t} ho h0 => by
    have hcb := ho.1
    have hk : t.2 = .nil := ho.2.2.2.1 (by rw [h0]; decide)
    obtain ⟨⟨k, n, s⟩, F⟩ := t
    simp only at h0 hcb hk ⊢
    subst h0 hk
    simp [cellB] at hcb
    have hs : s = [] := by
      have := hcb.2.2
      cases s with
      | nil => rfl
      | cons a r => simp at this
    rw [hs]
  rw [key ox hx, key oy hy, h]
theorem sm_step {M M1 M' : BM} (hw' : WfU M') {cF cC : Int} {x y : Tr} (hx : ∀ v, IsV x v → M v = none) (hy : ∀ v, IsV y v → M v = none) (ox : x.fo.ok) (oy : y.fo.ok) {qs : List TT} (hs : stepE cF cC M x y = .ok (M1, qs)) (hi : Incl M1 M') (hq : ∀ p ∈ qs, Sm M' p.1 p.2) :
    Incl M M' ∧ Sm M' x y := by
  have bound : ∀ {a b : Tr}, a.fo.ok → a.1.1 = 0 → b.fo.ok → M' a.1.2.1 = some b → Sm M' a b := fun {a b} oa ha ob hm => by
    obtain ⟨g, hg⟩ := hw'.full b ob
    have hk : a.2 = .nil := oa.2.2.2.1 (by rw [ha]; decide)
    refine ⟨g, ?_, hg⟩
    obtain ⟨c, k⟩ := a
    simp only at hk ha hm
    subst hk
    exact .put ha hm hg .nil
  have self : ∀ {z : Int} {T : Tr}, M1 = M.set z T → M' z = some T := fun {z T} e => hi z T (by rw [e]; simp [BM.set])
  have turn : ∀ {a b : Tr}, Sm M' a b → Sm M' b a := fun ⟨g, h1, h2⟩ => ⟨g, h2, h1⟩
  have up : ∀ {z : Int} {T : Tr}, M z = none → M1 = M.set z T → Incl M M' := fun {z T} hz e v u h => hi v u (by rw [e]; exact Incl.set hz v u h)
  unfold stepE at hs
  by_cases h0 : x.1.1 = 0
  · have nx := hx _ (ok_var ox h0)
    by_cases h1 : y.1.1 = 0
    · have ny := hy _ (ok_var oy h1)
      rcases Int.lt_trichotomy x.1.2.1 y.1.2.1 with hl | hl | hl
      · have h2 : ¬ y.1.2.1 < x.1.2.1 := by omega
        simp [h0, h1, hl, h2] at hs
        exact ⟨up ny hs.1.symm, turn (bound oy h1 ox (self hs.1.symm))⟩
      · have h2 : ¬ x.1.2.1 < y.1.2.1 := by omega
        have h3 : ¬ y.1.2.1 < x.1.2.1 := by omega
        simp [h0, h1, h2, h3] at hs
        obtain ⟨rfl, -⟩ := hs
        obtain rfl := var_eqP ox oy h0 h1 hl
        obtain ⟨g, hg⟩ := hw'.full x ox
        exact ⟨hi, g, hg, hg⟩
      · simp [h0, h1, hl] at hs
        exact ⟨up nx hs.1.symm, bound ox h0 oy (self hs.1.symm)⟩
    · by_cases hr : Reach M y x.1.2.1
      · simp [h0, h1, hr] at hs
      · simp [h0, h1, hr] at hs
        exact ⟨up nx hs.1.symm, bound ox h0 oy (self hs.1.symm)⟩
  · by_cases h1 : y.1.1 = 0
    · have ny := hy _ (ok_var oy h1)
      by_cases hr : Reach M x y.1.2.1
      · simp [h0, h1, hr] at hs
      · simp [h0, h1, hr] at hs
        exact ⟨up ny hs.1.symm, turn (bound oy h1 ox (self hs.1.symm))⟩
    · by_cases he : x.1 = y.1
      · simp only [h1, he, and_false, if_false, if_true, Except.ok.injEq, Prod.mk.injEq] at hs
        obtain ⟨rfl, rfl⟩ := hs
        have hc : x.2.count = y.2.count := by
          by_cases h3 : x.1.1 = 3
          · have a := ox.2.2.1 h3
            have b := oy.2.2.1 (by rw [← he]; exact h3)
            have e2 : x.1.2.1 = y.1.2.1 := by rw [he]
            have a' : (x.2.count : Int) = y.2.count := by rw [← a, ← b]; exact e2
            omega
          · rw [ox.2.2.2.1 h3, oy.2.2.2.1 (by rw [← he]; exact h3)]
        obtain ⟨G, g1, g2⟩ := sm_zip x.2 y.2 hc hq
        refine ⟨hi, (x.1, G), .keep (fun h => absurd h h0) g1 .nil, ?_⟩
        show FullF M' (.node y.1 y.2 .nil) (.node x.1 G .nil)
        rw [he]
        exact .keep (fun h => absurd h h1) g2 .nil
      · simp [h0, h1, he] at hs
theorem run_sound {cF cC cL : Int} : ∀ (k : Nat) (M : BM) (ps : List TT), WfU M → (∀ p ∈ ps, p.1.fo.ok ∧ p.2.fo.ok) → ∀ M' k', runU cF cC cL k M ps = .ok (M', k') → WfU M' ∧ Incl M M' ∧ ∀ p ∈ ps, Sm M' p.1 p.2
  | k, M, [], hw, _, M', k', h => by
    rw [runU_nil] at h
    cases h
    exact ⟨hw, fun _ _ h => h, fun p hp => by cases hp⟩
  | 0, M, p :: ps, hw, _, M', k', h => by cases h
  | k + 1, M, p :: ps, hw, hok, M', k', h => by
    have hp := hok p (by simp)
    have o1 := hw.end_ok hp.1 (hw.endB p.1)
    have o2 := hw.end_ok hp.2 (hw.endB p.2)
    simp only [runU] at h
    cases hs : stepE cF cC M (endB M p.1) (endB M p.2) with
    | error c => rw [hs] at h; cases h
    | ok r =>
      obtain ⟨M1, qs⟩ := r
      rw [hs] at h
      simp only at h
      obtain ⟨w1, w2⟩ := hw.step (hw.endB p.1).last (hw.endB p.2).last o1 o2 hs
      obtain ⟨a1, a2, a3⟩ := run_sound k M1 (qs ++ ps) w1 (fun q hq => by
        rcases List.mem_append.1 hq with hq | hq
        · exact w2 q hq
        · exact hok q (by simp [hq])) M' k' h
      obtain ⟨b1, g, g1, g2⟩ := sm_step a1 (hw.endB p.1).last (hw.endB p.2).last o1 o2 hs a2 (fun q hq => a3 q (by simp [hq]))
      refine ⟨a1, b1, fun q hq => ?_⟩
      rcases List.mem_cons.1 hq with rfl | hq
      · exact ⟨g, FullF.from_stop (b1.way (hw.endB q.1).way) g1, FullF.from_stop (b1.way (hw.endB q.2).way) g2⟩
      · exact a3 q (by simp [hq])
theorem Sm.cells {M : BM} {x y : Tr} (h : Sm M x y) : fullC M x = fullC M y := by
  obtain ⟨g, h1, h2⟩ := h
  rw [fullC_eq h1, fullC_eq h2]
theorem full_free {M : BM} {F G : Fo} (h : FullF M F G) : ∀ c ∈ G.cells, c.1 = 0 → M c.2.1 = none := by
  induction h with
  | nil => intro c hc; cases hc
  | keep h _ _ ihk ihr =>
    intro c hc h0
    simp only [Fo.cells, List.mem_cons, List.mem_append] at hc
    rcases hc with rfl | hc | hc
    · exact h h0
    · exact ihk c hc h0
    · exact ihr c hc h0
  | put _ _ _ _ ihu ihr =>
    intro c hc h0
    simp only [Fo.cells, List.mem_cons, List.mem_append] at hc
    rcases hc with rfl | hc | hc
    · exact ihu _ (by simp [Tr.fo, Fo.cells]) h0
    · exact ihu _ (by simp [Tr.fo, Fo.cells, hc]) h0
    · exact ihr c hc h0
theorem full_again {M : BM} (cs : List Cel) (h : ∀ c ∈ cs, c.1 = 0 → M c.2.1 = none) : cs.flatMap (putC M) = cs := by
  induction cs with
  | nil => rfl
  | cons c r ih =>
    have e : putC M c = [c] := by
      unfold putC
      by_cases h0 : c.1 = 0
      · rw [if_pos h0, h c (by simp) h0]
      · rw [if_neg h0]
    rw [List.flatMap_cons, e, ih (fun c hc => h c (by simp [hc]))]
    rfl
end Go.Proofs.YtaakpdakeolgeaaGreat

namespace Go.Proofs.YtaakpdakeolgeaaGreat
open Go Go.RowKit
set_option linter.unusedVariables false
theorem look_some_app {α : Type} {E F : List (Int × α)} {v : Int} {t : α} (h : look E v = some t) : look (E ++ F) v = some t := by
  rw [look_append, h]
theorem sub_grow : ∀ (F G : Fo) (env e' : Env), subF env F G = some e' → ∀ v t, look env v = some t → look e' v = some t
  | .nil, .nil, env, e', h, v, t, hl => by
    simp only [subF, Option.some.injEq] at h
    rw [← h]; exact hl
  | .nil, .node _ _ _, env, e', h, v, t, hl => by simp [subF] at h
  | .node _ _ _, .nil, env, e', h, v, t, hl => by simp [subF] at h
  | .node c k r, .node c' k' r', env, e', h, v, t, hl => by
    simp only [subF] at h
    split at h
    · split at h
      · split at h
        · exact sub_grow r r' _ _ h v t hl
        · cases h
      · exact sub_grow r r' _ _ h v t (look_some_app hl)
    · split at h
      · split at h
        · rename_i e1 h1
          exact sub_grow r r' _ _ h v t (sub_grow k k' _ _ h1 v t hl)
        · cases h
      · cases h
theorem sub_sound (f : Int → Tr) : ∀ (F G : Fo) (env e' : Env), subF env F G = some e' → (∀ v t, look e' v = some t → f v = t) → appF f F = G
  | .nil, .nil, env, e', h, hf => rfl
  | .nil, .node _ _ _, env, e', h, hf => by simp [subF] at h
  | .node _ _ _, .nil, env, e', h, hf => by simp [subF] at h
  | .node c k r, .node c' k' r', env, e', h, hf => by
    simp only [subF] at h
    split at h
    · rename_i h0
      have hv : f c.2.1 = (c', k') ∧ appF f r = r' := by
        split at h
        · rename_i t hl
          split at h
          · rename_i ht
            refine ⟨?_, sub_sound f r r' _ _ h hf⟩
            rw [hf _ _ (sub_grow r r' _ _ h _ _ hl)]
            exact (eqT_iff _).1 ht
          · cases h
        · rename_i hl
          refine ⟨hf _ _ (sub_grow r r' _ _ h _ _ ?_), sub_sound f r r' _ _ h hf⟩
          rw [look_append, hl]
          simp [look]
      simp only [appF, if_pos h0, hv.1, hv.2]
    · rename_i h0
      split at h
      · rename_i hc
        split at h
        · rename_i e1 h1
          have a := sub_sound f k k' _ _ h1 (fun v t hl => hf v t (sub_grow r r' _ _ h v t hl))
          have b := sub_sound f r r' _ _ h hf
          simp only [appF, if_neg h0, a, b]
          rw [hc]
        · cases h
      · cases h
theorem sub_complete (f : Int → Tr) : ∀ (F : Fo) (env : Env), (∀ v t, look env v = some t → t = f v) → ∃ e', subF env F (appF f F) = some e' ∧ ∀ v t, look e' v = some t → t = f v
  | .nil, env, h => ⟨env, rfl, h⟩
  | .node c k r, env, h => by
    by_cases h0 : c.1 = 0
    · simp only [appF, if_pos h0, subF]
      cases hl : look env c.2.1 with
      | some t =>
        have ht : eqT (t, ((f c.2.1).1, (f c.2.1).2)) = true := (eqT_iff _).2 (h _ _ hl)
        simp only [if_pos ht]
        exact sub_complete f r env h
      | none =>
        simp only
        refine sub_complete f r _ fun v t hv => ?_
        rw [look_append] at hv
        cases he : look env v with
        | some t' => rw [he] at hv; cases hv; exact h v t he
        | none =>
          rw [he] at hv
          simp only [look] at hv
          split at hv
          · rename_i e
            cases hv
            rw [← e]
          · cases hv
    · obtain ⟨e1, h1, a1⟩ := sub_complete f k env h
      simp only [appF, if_neg h0, subF, if_true, h1]
      exact sub_complete f r e1 a1
theorem appF_congr {f g : Int → Tr} : ∀ F : Fo, (∀ v ∈ vsF F, f v = g v) → appF f F = appF g F
  | .nil, _ => rfl
  | .node c k r, h => by
    have hk := appF_congr (f := f) (g := g) k (fun v hv => h v (by simp [vsF, hv]))
    have hr := appF_congr (f := f) (g := g) r (fun v hv => h v (by simp [vsF, hv]))
    by_cases h0 : c.1 = 0
    · have := h c.2.1 (by simp [vsF, h0])
      simp [appF, h0, this, hr]
    · simp [appF, h0, hk, hr]
def varT (v : Int) : Tr := ((0, v, []), .nil)
theorem text_nil {c : Cel} {k r : Fo} (ho : (Fo.node c k r).ok) (h0 : c.1 = 0) : c = (0, c.2.1, []) ∧ k = .nil ∧ 0 ≤ c.2.1 ∧ c.2.1 ≤ 1000000 := by
  have hcb := ho.1
  have hk : k = .nil := ho.2.2.2.1 (by rw [h0]; decide)
  obtain ⟨a, n, s⟩ := c
  simp only at h0 hcb ⊢
  subst h0
  simp [cellB] at hcb
  have hs : s = [] := by
    have := hcb.2.2
    cases s with
    | nil => rfl
    | cons a r => simp at this
  exact ⟨by rw [hs], hk, hcb.1, hcb.2.1⟩
theorem appF_id {f : Int → Tr} : ∀ F : Fo, F.ok → (∀ v ∈ vsF F, f v = varT v) → appF f F = F
  | .nil, _, _ => rfl
  | .node c k r, ho, h => by
    have hr := appF_id (f := f) r ho.2.2.2.2.2 (fun v hv => h v (by simp [vsF, hv]))
    by_cases h0 : c.1 = 0
    · obtain ⟨e1, e2, _⟩ := text_nil ho h0
      have := h c.2.1 (by simp [vsF, h0])
      simp only [appF, if_pos h0, this, hr, varT]
      rw [← e1, ← e2]
    · have hk := appF_id (f := f) k ho.2.2.2.2.1 (fun v hv => h v (by simp [vsF, hv]))
      simp [appF, h0, hk, hr]
theorem appF_comp (f g : Int → Tr) : ∀ F : Fo, appF g (appF f F) = appF (fun v => appT g (f v)) F
  | .nil => rfl
  | .node c k r => by
    have hr := appF_comp f g r
    by_cases h0 : c.1 = 0
    · simp only [appF, if_pos h0]
      by_cases h1 : (f c.2.1).1.1 = 0
      · simp only [appT, if_pos h1, hr]
      · simp only [appT, if_neg h1, hr]
    · simp only [appF, if_neg h0, appF_comp f g k, hr]
def shC (d : Int) (c : Cel) : Cel := if c.1 = 0 then (c.1, c.2.1 + d, c.2.2) else c
def shF (d : Int) : Fo → Fo
  | .nil => .nil
  | .node c k r => .node (shC d c) (shF d k) (shF d r)
theorem shF_cells (d : Int) : ∀ F : Fo, (shF d F).cells = F.cells.map (shC d)
  | .nil => rfl
  | .node c k r => by simp [shF, Fo.cells, shF_cells d k, shF_cells d r]
theorem shF_count (d : Int) : ∀ F : Fo, (shF d F).count = F.count
  | .nil => rfl
  | .node c k r => by simp [shF, Fo.count, shF_count d r]
theorem shF_app (d : Int) : ∀ F : Fo, F.ok → shF d F = appF (fun v => varT (v + d)) F
  | .nil, _ => rfl
  | .node c k r, ho => by
    have hr := shF_app d r ho.2.2.2.2.2
    by_cases h0 : c.1 = 0
    · obtain ⟨e1, e2, _⟩ := text_nil ho h0
      subst e2
      have e3 : c.2.2 = [] := by rw [e1]
      simp [shF, appF, h0, hr, varT, shC, e3]
    · simp [shF, appF, h0, hr, shC, shF_app d k ho.2.2.2.2.1]
theorem shF_ok (d : Int) (hd : 0 ≤ d) : ∀ F : Fo, F.ok → (∀ v ∈ vsF F, v + d ≤ 1000000) → (shF d F).ok
  | .nil, _, _ => trivial
  | .node c k r, ho, h => by
    have hr := shF_ok d hd r ho.2.2.2.2.2 (fun v hv => h v (by simp [vsF, hv]))
    have hk := shF_ok d hd k ho.2.2.2.2.1 (fun v hv => h v (by simp [vsF, hv]))
    by_cases h0 : c.1 = 0
    · obtain ⟨e1, e2, h1, h2⟩ := text_nil ho h0
      subst e2
      have hb := h c.2.1 (by simp [vsF, h0])
      have e3 : shC d c = (0, c.2.1 + d, []) := by rw [shC, if_pos h0, h0]; rw [e1]
      refine ⟨?_, ?_, ?_, ?_, trivial, hr⟩
      · rw [e3]; simp [cellB]; omega
      · rw [e3]; intro x hx; cases hx
      · rw [e3]; intro h; cases h
      · intro _; rfl
    · have e3 : shC d c = c := by rw [shC, if_neg h0]
      refine ⟨by rw [e3]; exact ho.1, by rw [e3]; exact ho.2.1, by rw [e3, shF_count]; exact ho.2.2.1, ?_, hk, hr⟩
      intro h3
      rw [e3] at h3
      rw [ho.2.2.2.1 h3]
      rfl
theorem shF_vs (d : Int) : ∀ F : Fo, ∀ v ∈ vsF (shF d F), v - d ∈ vsF F
  | .nil, v, h => by cases h
  | .node c k r, v, h => by
    simp only [shF, vs_node] at h ⊢
    rcases h with ⟨h0, h1⟩ | h | h
    · by_cases hc : c.1 = 0
      · rw [shC, if_pos hc] at h1
        exact .inl ⟨hc, by simp only at h1; omega⟩
      · rw [shC, if_neg hc] at h0; exact absurd h0 hc
    · exact .inr (.inl (shF_vs d k v h))
    · exact .inr (.inr (shF_vs d r v h))
theorem sub_unifies {cF cC cL : Int} {k : Nat} {d : Int} (hd : 0 ≤ d) {x y : Tr} (ox : x.fo.ok) (oy : y.fo.ok) (hx : ∀ v ∈ vsT x, v < d) (hy : ∀ v ∈ vsT y, v + d ≤ 1000000) (hs : (subF [] x.fo y.fo).isSome = true) :
    runU cF cC cL k (fun _ => none) [(x, (shC d y.1, shF d y.2))] = .error cL ∨ ∃ M' k', runU cF cC cL k (fun _ => none) [(x, (shC d y.1, shF d y.2))] = .ok (M', k') := by
  obtain ⟨e, he⟩ := Option.isSome_iff_exists.1 hs
  have hz : Tr.fo (shC d y.1, shF d y.2) = shF d y.fo := rfl
  have oz := shF_ok d hd y.fo oy hy
  have hy0 : ∀ v ∈ vsF y.fo, 0 ≤ v := by
    have key : ∀ F : Fo, F.ok → ∀ v ∈ vsF F, 0 ≤ v := by
      intro F
      induction F with
      | nil => intro _ v h; cases h
      | node c k r ihk ihr =>
        intro ho v h
        rw [vs_node] at h
        rcases h with ⟨h0, rfl⟩ | h | h
        · exact (text_nil ho h0).2.2.1
        · exact ihk ho.2.2.2.2.1 v h
        · exact ihr ho.2.2.2.2.2 v h
    exact key y.fo oy
  let θ : Int → Tr := fun v => match look e v with | some t => t | none => varT v
  let f : Int → Tr := fun v => if v < d then appT (fun u => varT (u + d)) (θ v) else varT v
  have h1 : appF θ x.fo = y.fo := sub_sound θ _ _ _ _ he (fun v t h => by show (match look e v with | some t => t | none => varT v) = t; rw [h])
  have h2 : appF f x.fo = shF d y.fo := by
    rw [shF_app d y.fo oy, ← h1, appF_comp]
    exact appF_congr _ (fun v hv => by show (if v < d then _ else _) = _; rw [if_pos (hx v hv)])
  have h3 : appF f (shF d y.fo) = shF d y.fo := appF_id _ oz (fun v hv => by
    show (if v < d then _ else _) = _
    rw [if_neg]
    have := hy0 _ (shF_vs d y.fo v hv)
    omega)
  have h4 : appT f x = appT f (shC d y.1, shF d y.2) := by
    have a := appT_fo f x
    have b := appT_fo f (shC d y.1, shF d y.2)
    rw [hz, h3] at b
    rw [h2] at a
    have c := a.symm.trans b
    simp only [Tr.fo, Fo.node.injEq, and_true] at c
    exact Prod.ext c.1 c.2
  have hw : WfU (fun _ => none) := ⟨⟨fun _ => 0, fun v u h => by cases h⟩, fun v u h => by cases h⟩
  rcases Uni.run (f := f) (cF := cF) (cC := cC) (cL := cL) k (fun _ => none) [(x, (shC d y.1, shF d y.2))] hw (fun v u h => by cases h) (fun p hp => by
    obtain rfl := List.mem_singleton.1 hp
    exact ⟨ox, oz⟩) (fun p hp => by
    obtain rfl := List.mem_singleton.1 hp
    exact h4) with h | ⟨M', k', h, _⟩
  · exact .inl h
  · exact .inr ⟨M', k', h⟩
end Go.Proofs.YtaakpdakeolgeaaGreat

namespace Go.Proofs.YtaakpdakeolgeaaGreat
open Go Go.RowKit
set_option linter.unusedVariables false
theorem valid_cells : ∀ (F : Fo) (m : Nat) (rest : List Cel), F.ok → validFrom ((m + F.count : Nat) : Int) (F.cells ++ rest) = validFrom (m : Int) rest
  | .nil, m, rest, _ => by simp [Fo.cells, Fo.count]
  | .node c k r, m, rest, ho => by
    have h1 := ho.1
    have hg : grows c.1 c.2.1 = (k.count : Int) := by
      unfold grows
      by_cases h3 : c.1 = 3
      · rw [if_pos h3, ho.2.2.1 h3]
      · rw [if_neg h3, ho.2.2.2.1 h3]; rfl
    have hk := valid_cells k (m + r.count) (r.cells ++ rest) ho.2.2.2.2.1
    have hr := valid_cells r m rest ho.2.2.2.2.2
    simp only [Fo.cells, Fo.count, List.cons_append, List.append_assoc, validFrom, hg]
    rw [if_neg (by rw [h1]; simp; omega), ← hr, ← hk]
    congr 1
    push_cast
    omega
theorem valid_tree {t : Tr} (h : t.fo.ok) (hl : (t.1 :: t.2.cells).length ≤ 2000) : validB (t.1 :: t.2.cells) = true := by
  have e1 : t.fo.cells ++ [] = t.1 :: t.2.cells := by simp [Tr.fo, Fo.cells]
  have h1 : validFrom 1 (t.1 :: t.2.cells) = true := by
    rw [← e1]
    exact (valid_cells t.fo 0 [] h).trans rfl
  unfold validB
  rw [h1, Bool.and_true]
  exact decide_eq_true hl
theorem look_bnds (M : BM) : ∀ (ks : List Int) (v : Int), look (bndsU M ks) v = if v ∈ ks then some (bndU M v).2 else none
  | [], v => rfl
  | a :: r, v => by
    have ih := look_bnds M r v
    unfold bndsU at ih
    simp only [bndsU, List.map_cons, look]
    by_cases h : a = v
    · subst h
      rw [if_pos (show (bndU M a).1 = a from rfl), if_pos (by simp)]
    · rw [if_neg (show ¬ (bndU M a).1 = v from h), ih]
      have : v ∈ a :: r ↔ v ∈ r := by
        rw [List.mem_cons]
        exact ⟨fun h' => h'.resolve_left (fun e => h e.symm), .inr⟩
      by_cases hv : v ∈ r
      · rw [if_pos hv, if_pos (this.2 hv)]
      · rw [if_neg hv, if_neg (fun h' => hv (this.1 h'))]
theorem apply_full {M : BM} {ks : List Int} (hk : ∀ x, x ∈ ks ↔ (M x).isSome = true) (cs : List Cel) : applyC (bndsU M ks) cs = cs.flatMap (putC M) := by
  unfold applyC
  congr 1
  funext c
  unfold sub1 putC
  by_cases h0 : c.1 = 0
  · rw [if_pos h0, if_pos h0, look_bnds]
    cases hm : M c.2.1 with
    | none =>
      rw [if_neg (fun h => by have := (hk _).1 h; rw [hm] at this; cases this)]
    | some u =>
      rw [if_pos ((hk _).2 (by rw [hm]; rfl))]
      simp [bndU, hm]
  · rw [if_neg h0, if_neg h0]
theorem apply_tree {M : BM} (hw : WfU M) {ks : List Int} (hk : ∀ x, x ∈ ks ↔ (M x).isSome = true) {t : Tr} (ht : t.fo.ok) : applyC (bndsU M ks) (t.1 :: t.2.cells) = fullC M t := by
  rw [apply_full hk, hw.full_flat t ht]
theorem apply_again {M : BM} (hw : WfU M) {ks : List Int} (hk : ∀ x, x ∈ ks ↔ (M x).isSome = true) {t : Tr} (ht : t.fo.ok) : applyC (bndsU M ks) (fullC M t) = fullC M t := by
  obtain ⟨g, hg⟩ := hw.full t ht
  rw [apply_full hk, fullC_eq hg]
  exact full_again _ (full_free hg)
theorem full_tree {M : BM} (hw : WfU M) {t : Tr} (ht : t.fo.ok) : ∃ g : Tr, FullF M t.fo g.fo ∧ g.fo.ok ∧ fullC M t = g.1 :: g.2.cells := by
  obtain ⟨g, hg⟩ := hw.full t ht
  exact ⟨g, hg, hg.okF hw.ok ht, by rw [fullC_eq hg]; simp [Tr.fo, Fo.cells]⟩
theorem run_range {cF cC cL : Int} : ∀ (k : Nat) (M : BM) (ps : List TT), WfU M → (∀ v u, M v = some u → 0 ≤ v ∧ v ≤ 1000000) → (∀ p ∈ ps, p.1.fo.ok ∧ p.2.fo.ok) → ∀ M' k', runU cF cC cL k M ps = .ok (M', k') → ∀ v u, M' v = some u → 0 ≤ v ∧ v ≤ 1000000
  | k, M, [], hw, hr, _, M', k', h => by
    rw [runU_nil] at h
    cases h
    exact hr
  | 0, M, p :: ps, hw, hr, _, M', k', h => by cases h
  | k + 1, M, p :: ps, hw, hr, hok, M', k', h => by
    have hp := hok p (by simp)
    have o1 := hw.end_ok hp.1 (hw.endB p.1)
    have o2 := hw.end_ok hp.2 (hw.endB p.2)
    simp only [runU] at h
    cases hs : stepE cF cC M (endB M p.1) (endB M p.2) with
    | error c => rw [hs] at h; cases h
    | ok r =>
      obtain ⟨M1, qs⟩ := r
      rw [hs] at h
      simp only at h
      obtain ⟨w1, w2⟩ := hw.step (hw.endB p.1).last (hw.endB p.2).last o1 o2 hs
      refine run_range k M1 (qs ++ ps) w1 ?_ (fun q hq => by
        rcases List.mem_append.1 hq with hq | hq
        · exact w2 q hq
        · exact hok q (by simp [hq])) M' k' h
      have hset : ∀ {z : Int} {T : Tr}, (0 ≤ z ∧ z ≤ 1000000) → M.set z T = M1 → ∀ v u, M1 v = some u → 0 ≤ v ∧ v ≤ 1000000 := fun {z T} hz e v u hv => by
        rw [← e] at hv
        simp only [BM.set] at hv
        by_cases h' : v = z
        · rw [h']; exact hz
        · rw [if_neg h'] at hv; exact hr v u hv
      have rX : (endB M p.1).1.1 = 0 → 0 ≤ (endB M p.1).1.2.1 ∧ (endB M p.1).1.2.1 ≤ 1000000 := fun h0 => (text_nil (c := (endB M p.1).1) (k := (endB M p.1).2) (r := .nil) o1 h0).2.2
      have rY : (endB M p.2).1.1 = 0 → 0 ≤ (endB M p.2).1.2.1 ∧ (endB M p.2).1.2.1 ≤ 1000000 := fun h0 => (text_nil (c := (endB M p.2).1) (k := (endB M p.2).2) (r := .nil) o2 h0).2.2
      unfold stepE at hs
      split at hs
      · rename_i h01
        split at hs
        · cases hs; exact hset (rX h01.1) rfl
        · split at hs
          · cases hs; exact hset (rY h01.2) rfl
          · cases hs; exact hr
      · split at hs
        · rename_i h0
          split at hs
          · cases hs
          · cases hs; exact hset (rX h0) rfl
        · split at hs
          · rename_i h0
            split at hs
            · cases hs
            · cases hs; exact hset (rY h0) rfl
          · split at hs
            · cases hs; exact hr
            · cases hs
theorem subst_bnds {M : BM} (hw : WfU M) (hr : ∀ v u, M v = some u → 0 ≤ v ∧ v ≤ 1000000) : ∀ (ks : List Int) (last : Int), ks.Pairwise (· < ·) → (∀ v ∈ ks, last < v) → (∀ v ∈ ks, (M v).isSome = true ∧ (bndU M v).2.length ≤ 2000) → substFrom last (bndsU M ks) = true
  | [], _, _, _, _ => rfl
  | a :: r, last, hp, hl, hk => by
    obtain ⟨p1, p2⟩ := List.pairwise_cons.1 hp
    have ih := subst_bnds hw hr r a p2 p1 (fun v hv => hk v (by simp [hv]))
    obtain ⟨u, hu⟩ := Option.isSome_iff_exists.1 (hk a (by simp)).1
    have h1 := (hk a (by simp)).2
    obtain ⟨g, hg, go, ge⟩ := full_tree hw (hw.ok a u hu)
    have e : (bndU M a).2 = g.1 :: g.2.cells := by simp only [bndU, hu]; exact ge
    rw [e] at h1
    show (bndB last (bndU M a) && substFrom (bndU M a).1 (bndsU M r)) = true
    rw [Bool.and_eq_true]
    refine ⟨?_, ih⟩
    unfold bndB
    rw [e, valid_tree go h1]
    simp only [Bool.and_true, Bool.and_eq_true, decide_eq_true_eq]
    exact ⟨hl a (by simp), (hr a u hu).2⟩
end Go.Proofs.YtaakpdakeolgeaaGreat

