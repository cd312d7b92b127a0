/- Texts of UnP2, UnP3, UnF. Own work of the verifier. -/
import Derived.Test.YtedlcmkhbccjgaaUqak
import Derived.Test.YtedlcmkhbccjgaaUqai
namespace Go.Proofs.Ytedlcmkhbccjgaa
open Go Go.RowKit
set_option linter.unusedVariables false

/-- x is v, or reaches it. -/
def Reaches (M : BM) (v x : Int) : Prop := x = v ∨ ∃ u, M x = some u ∧ Reach M u v
theorem Reaches.of_mem {M : BM} {v x w : Int} {u : Tr} (hm : M x = some u) (hw : w ∈ vsT u) (h : Reaches M v w) : Reaches M v x := by
  refine .inr ⟨u, hm, ?_⟩
  rcases h with rfl | ⟨y, hy, hr⟩
  · exact .here hw
  · exact .thro hw hy hr
theorem Reach.of_reaches {M : BM} {v w : Int} {t : Tr} (hw : w ∈ vsT t) (h : Reaches M v w) : Reach M t v := by
  rcases h with rfl | ⟨y, hy, hr⟩
  · exact .here hw
  · exact .thro hw hy hr
/-- A bound above all ranks of a list. -/
theorem list_top (r : Int → Nat) : ∀ l : List Int, ∃ K, ∀ w ∈ l, r w < K
  | [] => ⟨0, fun _ h => by cases h⟩
  | a :: l => by
    obtain ⟨K, h⟩ := list_top r l
    refine ⟨K + r a + 1, fun w hw => ?_⟩
    rcases List.mem_cons.1 hw with rfl | hw
    · omega
    · have := h w hw; omega
open Classical in
/-- A binding of what does not reach the variable makes no circle. -/
theorem Acyc.bind {M : BM} {r : Int → Nat} (ha : Acyc M r) {v : Int} {t : Tr} (hv : M v = none) (hr : ¬ Reach M t v) : ∃ r', Acyc (M.set v t) r' := by
  obtain ⟨K, hK⟩ := list_top r (vsT t)
  refine ⟨fun x => r x + (if Reaches M v x then K else 0), fun x u hm w hw => ?_⟩
  simp only [BM.set] at hm
  by_cases hx : x = v
  · subst hx
    rw [if_pos rfl] at hm
    cases hm
    have h1 := hK w hw
    have h2 : ¬ Reaches M x w := fun h => hr (Reach.of_reaches hw h)
    simp only [if_neg h2, if_pos (show Reaches M x x from .inl rfl)]
    omega
  · rw [if_neg hx] at hm
    have h1 := ha x u hm w hw
    by_cases h2 : Reaches M v w
    · simp only [if_pos h2, if_pos (Reaches.of_mem hm hw h2)]
      omega
    · simp only [if_neg h2]
      omega
/-- What a forest stands for in the end. -/
inductive FullF (M : BM) : Fo → Fo → Prop
  | nil : FullF M .nil .nil
  | keep {c : Cel} {k r k' r' : Fo} (h : c.1 = 0 → M c.2.1 = none) (hk : FullF M k k') (hr : FullF M r r') : FullF M (.node c k r) (.node c k' r')
  | put {c : Cel} {r r' : Fo} {u g : Tr} (h0 : c.1 = 0) (hm : M c.2.1 = some u) (hu : FullF M u.fo g.fo) (hr : FullF M r r') : FullF M (.node c .nil r) (.node g.1 g.2 r')
theorem FullF.det {M : BM} {F G : Fo} (h : FullF M F G) : ∀ {G'}, FullF M F G' → G = G' := by
  induction h with
  | nil => intro G' h'; cases h'; rfl
  | keep h _ _ ihk ihr =>
    intro G' h'
    cases h' with
    | keep _ hk hr => rw [ihk hk, ihr hr]
    | put h0 hm _ _ => rw [h h0] at hm; cases hm
  | @put c r r' u g h0 hm _ _ ihu ihr =>
    intro G' h'
    cases h' with
    | keep h _ _ => rw [h h0] at hm; cases hm
    | @put _ _ r2 u' g' _ hm' hu hr =>
      rw [hm] at hm'
      cases hm'
      have e := ihu hu
      unfold Tr.fo at e
      injection e with e1 e2 _
      rw [e1, e2, ihr hr]
theorem vs_node (c : Cel) (k r : Fo) (w : Int) : w ∈ vsF (.node c k r) ↔ (c.1 = 0 ∧ w = c.2.1) ∨ w ∈ vsF k ∨ w ∈ vsF r := by
  simp only [vsF, List.mem_append]
  by_cases h : c.1 = 0 <;> simp [h]
/-- Every forest whose variables stand alone stands for one. -/
theorem full_ex {M : BM} {r : Int → Nat} (ha : Acyc M r) (hb : ∀ v u, M v = some u → u.fo.ok) : ∀ (n : Nat) (F : Fo), F.ok → (∀ w ∈ vsF F, r w < n) → ∃ G, FullF M F G ∧ G.count = F.count := by
  intro n
  induction n with
  | zero =>
    intro F
    induction F with
    | nil => exact fun _ _ => ⟨.nil, .nil, rfl⟩
    | node c k f ihk ihf =>
      intro hok hn
      obtain ⟨k', hk, ck⟩ := ihk hok.2.2.2.2.1 fun w hw => hn w ((vs_node ..).2 (.inr (.inl hw)))
      obtain ⟨f', hf, cf⟩ := ihf hok.2.2.2.2.2 fun w hw => hn w ((vs_node ..).2 (.inr (.inr hw)))
      refine ⟨.node c k' f', .keep (fun h0 => ?_) hk hf, by simp [Fo.count, cf]⟩
      have := hn c.2.1 ((vs_node ..).2 (.inl ⟨h0, rfl⟩))
      omega
  | succ n ih =>
    intro F
    induction F with
    | nil => exact fun _ _ => ⟨.nil, .nil, rfl⟩
    | node c k f ihk ihf =>
      intro hok hn
      obtain ⟨k', hk, ck⟩ := ihk hok.2.2.2.2.1 fun w hw => hn w ((vs_node ..).2 (.inr (.inl hw)))
      obtain ⟨f', hf, cf⟩ := ihf hok.2.2.2.2.2 fun w hw => hn w ((vs_node ..).2 (.inr (.inr hw)))
      by_cases h0 : c.1 = 0
      · cases hm : M c.2.1 with
        | none => exact ⟨.node c k' f', .keep (fun _ => hm) hk hf, by simp [Fo.count, cf]⟩
        | some u =>
          have hkn : k = .nil := hok.2.2.2.1 (by rw [h0]; decide)
          subst hkn
          have hr := hn c.2.1 ((vs_node ..).2 (.inl ⟨h0, rfl⟩))
          obtain ⟨G, hG, cG⟩ := ih u.fo (hb _ _ hm) fun w hw => by have := ha _ _ hm w hw; omega
          cases G with
          | nil => simp [Tr.fo, Fo.count] at cG
          | node a b d =>
            cases d with
            | nil => exact ⟨.node a b f', .put (g := (a, b)) h0 hm hG hf, by simp [Fo.count, cf]⟩
            | node _ _ _ => simp [Tr.fo, Fo.count] at cG
      · exact ⟨.node c k' f', .keep (fun h => absurd h h0) hk hf, by simp [Fo.count, cf]⟩
/-- A stop on a way stands for the same. -/
theorem FullF.from_stop {M : BM} {a b g : Tr} (h : OnWay M a b) : FullF M b.fo g.fo → FullF M a.fo g.fo := by
  induction h with
  | here => exact id
  | @on a u e v hv hm _ ih =>
    intro h
    have h1 := ih h
    obtain ⟨⟨a0, an, at'⟩, ak⟩ := a
    obtain ⟨v0, v1, v2⟩ := hv
    simp only at v0 v1 v2
    subst v0 v1 v2
    exact FullF.put (c := (0, an, at')) (g := g) rfl hm h1 .nil
/-- Ways cut short: the same in the end. -/
theorem Cut.full {P M : BM} (hc : Cut P M) {F G : Fo} (h : FullF P F G) : FullF M F G := by
  induction h with
  | nil => exact .nil
  | @keep c k r k' r' h _ _ ihk ihr =>
    refine .keep (fun h0 => ?_) ihk ihr
    cases hm : M c.2.1 with
    | none => rfl
    | some u =>
      obtain ⟨u', hp, _⟩ := hc.2 _ u hm
      rw [h h0] at hp; cases hp
  | @put c r r' u g h0 hp _ _ ihu ihr =>
    cases hm : M c.2.1 with
    | none => rw [hc.1 _ hm] at hp; cases hp
    | some x =>
      obtain ⟨u', hp', hway⟩ := hc.2 _ x hm
      rw [hp] at hp'
      cases hp'
      exact .put h0 hm (FullF.from_stop hway ihu) ihr
/-- The cells of what a forest stands for are at least its own. -/
theorem FullF.size {M : BM} {F G : Fo} (h : FullF M F G) : F.cells.length ≤ G.cells.length := by
  induction h with
  | nil => exact Nat.le_refl _
  | keep _ _ _ ihk ihr => simp only [Fo.cells, List.length_cons, List.length_append]; omega
  | put _ _ _ _ ihu ihr =>
    simp only [Tr.fo, Fo.cells, List.length_cons, List.length_append, List.length_nil] at ihu ⊢
    omega

end Go.Proofs.Ytedlcmkhbccjgaa

namespace Go.Proofs.Ytedlcmkhbccjgaa
open Go Go.RowKit
set_option linter.unusedVariables false

open Classical in
/-- The end of a way. -/
noncomputable def endB (M : BM) (t : Tr) : Tr := if h : ∃ e, EndB M t e then Classical.choose h else t
theorem endB_eq {M : BM} {t e : Tr} (h : EndB M t e) : endB M t = e := by
  have hx : ∃ e, EndB M t e := ⟨e, h⟩
  unfold endB
  rw [dif_pos hx]
  exact (Classical.choose_spec hx).det h
open Classical in
/-- One pair, whose ways have been gone; cF, cC: the codes of what fails and of a circle. -/
noncomputable def stepE (cF cC : Int) (M : BM) (x y : Tr) : Except Int (BM × List TT) :=
  if x.1.1 = 0 ∧ y.1.1 = 0 then
    if y.1.2.1 < x.1.2.1 then .ok (M.set x.1.2.1 y, []) else if x.1.2.1 < y.1.2.1 then .ok (M.set y.1.2.1 x, []) else .ok (M, [])
  else if x.1.1 = 0 then (if Reach M y x.1.2.1 then .error cC else .ok (M.set x.1.2.1 y, []))
  else if y.1.1 = 0 then (if Reach M x y.1.2.1 then .error cC else .ok (M.set y.1.2.1 x, []))
  else if x.1 = y.1 then .ok (M, (trs x.2).zip (trs y.2)) else .error cF
/-- Pairs in their order; k of them may be taken. -/
noncomputable def runU (cF cC cL : Int) : Nat → BM → List TT → Except Int (BM × Nat)
  | k, M, [] => .ok (M, k)
  | 0, _, _ :: _ => .error cL
  | k + 1, M, p :: ps => match stepE cF cC M (endB M p.1) (endB M p.2) with
    | .error c => .error c
    | .ok (M', qs) => runU cF cC cL k M' (qs ++ ps)
theorem runU_nil (cF cC cL : Int) (k : Nat) (M : BM) : runU cF cC cL k M [] = .ok (M, k) := by cases k <;> rfl
/-- Pairs behind pairs. -/
theorem runU_append (cF cC cL : Int) : ∀ (k : Nat) (M : BM) (ps qs : List TT), runU cF cC cL k M (ps ++ qs) = match runU cF cC cL k M ps with
    | .error c => .error c
    | .ok (M', k') => runU cF cC cL k' M' qs
  | k, M, [], qs => by rw [runU_nil]; rfl
  | 0, M, p :: ps, qs => rfl
  | k + 1, M, p :: ps, qs => by
    simp only [List.cons_append, runU]
    cases h : stepE cF cC M (endB M p.1) (endB M p.2) with
    | error c => rfl
    | ok r =>
      obtain ⟨M', rs⟩ := r
      simp only
      rw [← List.append_assoc, runU_append cF cC cL k M' (rs ++ ps) qs]
/-- What the bindings are at any time. -/
structure WfU (M : BM) : Prop where
  acyc : ∃ r, Acyc M r
  ok : ∀ v u, M v = some u → u.fo.ok
theorem ok_var {t : Tr} (h : t.fo.ok) (h0 : t.1.1 = 0) : IsV t t.1.2.1 := ⟨h0, rfl, h.2.2.2.1 (by rw [h0]; decide)⟩
theorem WfU.end_ex {M : BM} (h : WfU M) (t : Tr) : ∃ e, EndB M t e := by
  obtain ⟨r, hr⟩ := h.acyc
  obtain ⟨K, hK⟩ := list_top r (vsT t)
  exact hr.ends K t hK
theorem WfU.endB {M : BM} (h : WfU M) (t : Tr) : EndB M t (endB M t) := by
  obtain ⟨e, he⟩ := h.end_ex t
  rw [endB_eq he]; exact he
theorem WfU.end_ok {M : BM} (h : WfU M) {t e : Tr} (ht : t.fo.ok) (he : EndB M t e) : e.fo.ok := by
  induction he with
  | stay _ => exact ht
  | go hv hm _ ih => exact ih (h.ok _ _ hm)
theorem Cut.wf {P M : BM} (hc : Cut P M) (h : WfU M) : WfU P := by
  obtain ⟨r, hr⟩ := h.acyc
  refine ⟨⟨r, hc.acyc hr⟩, fun v u hp => ?_⟩
  cases hm : M v with
  | none => rw [hc.1 v hm] at hp; cases hp
  | some x =>
    obtain ⟨u', hp', hway⟩ := hc.2 v x hm
    rw [hp] at hp'
    cases hp'
    have hx := h.ok v x hm
    clear hp hm hc
    induction hway with
    | here => exact hx
    | on hv hm _ ih => exact ih (h.ok _ _ hm)
theorem Cut.endB {P M : BM} (hc : Cut P M) (h : WfU M) (t : Tr) : endB P t = endB M t :=
  (endB_eq (hc.ends ((hc.wf h).endB t))).symm
theorem Cut.reach_eq {P M : BM} (hc : Cut P M) (h : WfU M) {v : Int} (hv : M v = none) (t : Tr) : Reach P t v ↔ Reach M t v := by
  obtain ⟨r, hr⟩ := h.acyc
  obtain ⟨K, hK⟩ := list_top r (vsT t)
  exact hc.reach_iff hr hv hK
/-- A step with ways cut short: the same, and what it leaves is what the other leaves, with ways cut short. -/
theorem Cut.step {P M : BM} (hc : Cut P M) (h : WfU M) {cF cC : Int} {x y : Tr} (hx : ∀ v, IsV x v → M v = none) (hy : ∀ v, IsV y v → M v = none) (ox : x.fo.ok) (oy : y.fo.ok) : match stepE cF cC M x y with
    | .error c => stepE cF cC P x y = .error c
    | .ok (M', qs) => ∃ P', stepE cF cC P x y = .ok (P', qs) ∧ Cut P' M' := by
  unfold stepE
  by_cases h1 : x.1.1 = 0 <;> by_cases h2 : y.1.1 = 0
  · have nx := hx _ (ok_var ox h1)
    have ny := hy _ (ok_var oy h2)
    simp only [h1, h2, and_self, if_true]
    by_cases g1 : y.1.2.1 < x.1.2.1
    · simp only [if_pos g1]
      exact ⟨_, rfl, hc.bind nx⟩
    · by_cases g2 : x.1.2.1 < y.1.2.1
      · simp only [if_neg g1, if_pos g2]
        exact ⟨_, rfl, hc.bind ny⟩
      · simp only [if_neg g1, if_neg g2]
        exact ⟨_, rfl, hc⟩
  · have nx := hx _ (ok_var ox h1)
    simp only [h1, h2, and_false, if_false, if_true]
    by_cases hr : Reach M y x.1.2.1
    · rw [if_pos hr, if_pos ((hc.reach_eq h nx y).2 hr)]
    · rw [if_neg hr, if_neg (fun h' => hr ((hc.reach_eq h nx y).1 h'))]
      exact ⟨_, rfl, hc.bind nx⟩
  · have ny := hy _ (ok_var oy h2)
    simp only [h1, h2, false_and, if_false, if_true]
    by_cases hr : Reach M x y.1.2.1
    · rw [if_pos hr, if_pos ((hc.reach_eq h ny x).2 hr)]
    · rw [if_neg hr, if_neg (fun h' => hr ((hc.reach_eq h ny x).1 h'))]
      exact ⟨_, rfl, hc.bind ny⟩
  · simp only [h1, h2, and_self, if_false]
    by_cases g : x.1 = y.1
    · simp only [if_pos g]
      exact ⟨_, rfl, hc⟩
    · simp only [if_neg g]
theorem trs_okU : ∀ {F : Fo}, F.ok → ∀ t ∈ trs F, t.fo.ok
  | .nil, _, t, ht => by cases ht
  | .node c k r, h, t, ht => by
    rcases List.mem_cons.1 ht with rfl | ht
    · exact ⟨h.1, h.2.1, h.2.2.1, h.2.2.2.1, h.2.2.2.2.1, trivial⟩
    · exact trs_okU h.2.2.2.2.2 t ht
theorem WfU.set {M : BM} (h : WfU M) {v : Int} {t : Tr} (hv : M v = none) (ht : t.fo.ok) (hr : ¬ Reach M t v) : WfU (M.set v t) := by
  obtain ⟨r, ha⟩ := h.acyc
  refine ⟨ha.bind hv hr, fun w u hm => ?_⟩
  simp only [BM.set] at hm
  by_cases hw : w = v
  · rw [if_pos hw] at hm; cases hm; exact ht
  · rw [if_neg hw] at hm; exact h.ok w u hm
theorem reach_var {M : BM} {t : Tr} {u v : Int} (h : IsV t u) (hu : M u = none) (hr : Reach M t v) : v = u := by
  cases hr with
  | here h' => rw [h.vs] at h'; exact List.mem_singleton.1 h'
  | thro hw hm _ =>
    rw [h.vs] at hw
    rw [List.mem_singleton.1 hw, hu] at hm; cases hm
/-- A step keeps what the bindings are, and leaves trees. -/
theorem WfU.step {M : BM} (h : WfU M) {cF cC : Int} {x y : Tr} (hx : ∀ v, IsV x v → M v = none) (hy : ∀ v, IsV y v → M v = none) (ox : x.fo.ok) (oy : y.fo.ok) {M' : BM} {qs : List TT} (hs : stepE cF cC M x y = .ok (M', qs)) : WfU M' ∧ ∀ p ∈ qs, p.1.fo.ok ∧ p.2.fo.ok := by
  have hno : ∀ p ∈ ([] : List TT), p.1.fo.ok ∧ p.2.fo.ok := fun p hp => by cases hp
  unfold stepE at hs
  by_cases h1 : x.1.1 = 0 <;> by_cases h2 : y.1.1 = 0
  · have vx := ok_var ox h1
    have vy := ok_var oy h2
    simp only [h1, h2, and_self, if_true] at hs
    split at hs
    · rename_i hlt
      cases hs
      exact ⟨h.set (hx _ vx) oy (fun hr => by have := reach_var vy (hy _ vy) hr; omega), hno⟩
    · split at hs
      · rename_i hlt
        cases hs
        exact ⟨h.set (hy _ vy) ox (fun hr => by have := reach_var vx (hx _ vx) hr; omega), hno⟩
      · cases hs; exact ⟨h, hno⟩
  · simp only [h1, h2, and_false, if_false, if_true] at hs
    split at hs
    · cases hs
    · rename_i hr
      cases hs
      exact ⟨h.set (hx _ (ok_var ox h1)) oy hr, hno⟩
  · simp only [h1, h2, false_and, if_false, if_true] at hs
    split at hs
    · cases hs
    · rename_i hr
      cases hs
      exact ⟨h.set (hy _ (ok_var oy h2)) ox hr, hno⟩
  · simp only [h1, h2, and_self, if_false] at hs
    split at hs
    · cases hs
      refine ⟨h, fun p hp => ?_⟩
      obtain ⟨ha, hb⟩ := List.of_mem_zip hp
      exact ⟨trs_okU ox.2.2.2.2.1 _ ha, trs_okU oy.2.2.2.2.1 _ hb⟩
    · cases hs

end Go.Proofs.Ytedlcmkhbccjgaa

namespace Go.Proofs.Ytedlcmkhbccjgaa
open Go Go.RowKit
set_option linter.unusedVariables false

theorem VMap.tight {w : World} {b N : Nat} {E : List (Int × Value)} (h : VMap w b N E) : VMap w b E.length E := by
  obtain ⟨D, ⟨es, clock, h1, F, hs, rfl⟩, hsz, r⟩ := h
  refine ⟨_, ⟨es, clock, h1, F, ?_, rfl⟩, hsz, r⟩
  rw [← hsz]
  simp [Maps.size, Go.length_sorted]
/-- The values of what variables stand for. -/
def BMIn (W0 : World) (Bt : Nat) (P : BM) (E : List (Int × Value)) : Prop := (∀ x u, P x = some u → ∃ v, look E x = some v ∧ FoIn W0 Bt u.fo [v]) ∧ ∀ x, P x = none → look E x = none
theorem BMIn.set {W0 : World} {Bt : Nat} {P : BM} {E : List (Int × Value)} (h : BMIn W0 Bt P E) {x : Int} {u : Tr} {v : Value} (hf : FoIn W0 Bt u.fo [v]) : BMIn W0 Bt (P.set x u) (putE E x v) := by
  constructor
  · intro y t hy
    rw [look_putE]
    simp only [BM.set] at hy
    by_cases e : y = x
    · rw [if_pos e] at hy ⊢; cases hy; exact ⟨v, rfl, hf⟩
    · rw [if_neg e] at hy ⊢; exact h.1 y t hy
  · intro y hy
    rw [look_putE]
    simp only [BM.set] at hy
    by_cases e : y = x
    · rw [if_pos e] at hy; cases hy
    · rw [if_neg e] at hy ⊢; exact h.2 y hy
/-- What follow leaves. -/
def FolOut (W0 : World) (Bt : Nat) (M : BM) (b L : Nat) (e : Tr) (w : World) (r : Ending) (w' : World) : Prop :=
  ∃ v P E, r = .returned v ∧ FoIn W0 Bt e.fo [v] ∧ Cut P M ∧ BMIn W0 Bt P E ∧ VMap w' b E.length E ∧ E.length = L ∧ w.grownBy w' (some b)
set_option maxRecDepth 100000 in
theorem follow_any (W0 : World) (Bt : Nat) (M : BM) (hwf : WfU M) (b ub : Nat) (hne : ub ≠ b) {P : BM} {t e : Tr} (h : EndB P t e) : ∀ (v : Value) (E : List (Int × Value)) (w : World), Cut P M → t.fo.ok → FoIn W0 Bt t.fo [v] → BMIn W0 Bt P E → VMap w b E.length E → E.length ≤ 100000 → w.cell? ⟨ub, 0, none⟩ = some (.map (some b)) →
    Calls Try.prog 79 #[.pointer (some ⟨ub, 0, none⟩), v] w (FolOut W0 Bt M b E.length e w) := by
  induction h with
  | @stay t hs =>
    intro v E w hc hok hf hbm hm hE hcell
    obtain ⟨tv, yv, rfl⟩ := FoIn.iface (show FoIn W0 Bt (.node t.1 t.2 .nil) [v] from hf)
    have HF : Hid (FolOut W0 Bt M b E.length t w (.returned (.iface tv yv)) w) := ⟨_, P, E, rfl, hf, hc, hbm, hm, rfl, ⟨rfl, rfl, rfl, Nat.le_refl _, fun _ _ _ => rfl⟩⟩
    obtain ⟨v', vr, e', hnode, _⟩ := hf
    obtain ⟨rfl, rfl⟩ := List.cons.inj e'
    have a1 := isVar
    have a2 := noVar_num
    have a3 := noVar_atom
    have a4 := noVar_comp
    by_cases h0 : t.1.1 = 0
    · have hu : tv = 67 ∧ yv = .int .i64 t.1.2.1 := by
        rcases hnode with ⟨_, e⟩ | ⟨e, _⟩ | ⟨e, _⟩ | ⟨e, _⟩
        · cases e; exact ⟨rfl, rfl⟩
        · omega
        · omega
        · omega
      obtain ⟨rfl, rfl⟩ := hu
      have hcb := hok.1
      rw [h0] at hcb
      have hvr : 0 ≤ t.1.2.1 ∧ t.1.2.1 ≤ 1000000 := by simp [cellB] at hcb; exact ⟨hcb.1, hcb.2.1⟩
      have hl := hbm.2 _ (hs _ (ok_var hok h0))
      obtain ⟨x, ex⟩ : ∃ x, x = t.1.2.1 := ⟨_, rfl⟩
      have hlk := hm.look (t := 89) Try.underlying89 (zeroTerm w) t.1.2.1 hvr.1 hvr.2
      rw [hl] at hlk
      simp only [Option.isSome_none] at hlk
      rw [← ex] at hlk HF ⊢
      obtain ⟨L, eL⟩ : ∃ L, L = E.length := ⟨_, rfl⟩
      rw [← eL] at HF ⊢
      clear hc hok hbm hm hE hnode hcb hl hs h0 ex eL hvr
      go_enter Try.func79, Try.ntmps79
      go_wp2_with fail
      go_ret
      exact HF.out
    · have hcs : tv = 139 ∨ tv = 140 ∨ tv = 108 := by
        rcases hnode with ⟨e, _⟩ | ⟨_, e⟩ | ⟨_, e⟩ | ⟨_, e⟩
        · exact absurd e h0
        · simp only [Value.iface.injEq] at e; exact .inl e.1
        · simp only [Value.iface.injEq] at e; exact .inr (.inl e.1)
        · obtain ⟨_, _, _, e, _⟩ := e
          simp only [Value.iface.injEq] at e; exact .inr (.inr e.1)
      obtain ⟨L, eL⟩ : ∃ L, L = E.length := ⟨_, rfl⟩
      rw [← eL] at HF ⊢
      clear hc hok hbm hm hE hnode hs h0 eL
      rcases hcs with rfl | rfl | rfl
      all_goals
        go_enter Try.func79, Try.ntmps79
        go_wp2_with fail
        go_ret
        exact HF.out
  | @go t u e x hv hp he ih =>
    intro v E w hc hok hf hbm hm hE hcell
    obtain ⟨h0, rfl, hk⟩ := hv
    obtain ⟨v', vr, e', hnode, _⟩ := hf
    obtain ⟨rfl, rfl⟩ := List.cons.inj e'
    have hu : v = .iface 67 (.int .i64 t.1.2.1) := by
      rcases hnode with ⟨_, e⟩ | ⟨e, _⟩ | ⟨e, _⟩ | ⟨e, _⟩
      · exact e
      · omega
      · omega
      · omega
    subst hu
    have hcb := hok.1
    rw [h0] at hcb
    have hvr : 0 ≤ t.1.2.1 ∧ t.1.2.1 ≤ 1000000 := by simp [cellB] at hcb; exact ⟨hcb.1, hcb.2.1⟩
    obtain ⟨x, ex⟩ : ∃ x, x = t.1.2.1 := ⟨_, rfl⟩
    rw [← ex] at hvr hp
    obtain ⟨vu, hl, hfu⟩ := hbm.1 x u hp
    obtain ⟨tu, yu, rfl⟩ := FoIn.iface (show FoIn W0 Bt (.node u.1 u.2 .nil) [vu] from hfu)
    have hlk := hm.look (t := 89) Try.underlying89 (zeroTerm w) x hvr.1 hvr.2
    rw [hl] at hlk
    simp only [Option.isSome_some] at hlk
    have HI := ih (.iface tu yu) E w hc ((hc.wf hwf).ok _ _ hp) hfu hbm hm hE hcell
    have HX : Hid (∀ P', Cut P' M → ∃ u', P' x = some u' ∧ EndB P' u' e) := fun P' hc' => by
      have h1 : EndB P t e := .go ⟨h0, ex.symm, hk⟩ hp he
      have h2 := (hc'.wf hwf).endB t
      rw [hc'.endB hwf t, ← hc.endB hwf t, endB_eq h1] at h2
      cases h2 with
      | stay hs =>
        cases hm' : M x with
        | none => rw [hc.1 x hm'] at hp; cases hp
        | some z =>
          obtain ⟨z', hz, _⟩ := hc'.2 x z hm'
          rw [hs x ⟨h0, ex.symm, hk⟩] at hz; cases hz
      | go hv' hp' he' =>
        have e0 := hv'.2.1
        rw [← ex] at e0
        subst e0
        exact ⟨_, hp', he'⟩
    have a1 := isVar
    have HC : Hid (∀ w' : World, w.grownBy w' (some b) → w'.cell? ⟨ub, 0, none⟩ = some (.map (some b))) := fun w' hg => by
      have hlt := World.block_lt_of_cell? _ _ hcell
      have hb := hg.block ub hlt (fun e => hne (Option.some.inj e))
      unfold World.cell? at hcell ⊢
      simp only at hcell ⊢
      rw [hb]; exact hcell
    obtain ⟨L, eL⟩ : ∃ L, L = E.length := ⟨_, rfl⟩
    have HEL : Hid (L ≤ 100000) := by rw [eL]; exact hE
    rw [← eL] at HI ⊢
    rw [← ex]
    clear hc hok hbm hm hE hnode ih hcb hp hl hfu he eL h0 hk ex
    go_enter Try.func79, Try.ntmps79
    go_wp2_with fail
    refine HI.mono ?_
    rintro r w1 ⟨v1, P1, E1, rfl, hf1, hc1, hbm1, hm1, hL1, hg1⟩
    obtain ⟨t1, y1, rfl⟩ := FoIn.iface (show FoIn W0 Bt (.node e.1 e.2 .nil) [v1] from hf1)
    obtain ⟨u', hp', he'⟩ := HX.out P1 hc1
    obtain ⟨w2, hrun, hm2, hg2⟩ := hm1.put (t := 89) Try.underlying89 (by rw [hL1]; have := HEL.out; omega) x hvr.1 hvr.2 (.iface t1 y1)
    have hlen : (putE E1 x (.iface t1 y1)).length = L := by
      obtain ⟨vq, hq, _⟩ := hbm1.1 x u' hp'
      rw [putE_len, hq, hL1]; rfl
    have HF : Hid (FolOut W0 Bt M b L e w (.returned (.iface t1 y1)) w2) := ⟨_, P1.set x e, _, rfl, hf1, hc1.cut hp' he', hbm1.set hf1, hm2.tight, hlen, hg1.andThen hg2 (fun j hj => .inr hj)⟩
    have c1 := HC.out w1 hg1
    clear hf1 hc1 hbm1 hm1 hL1 hg1 hp' he' hm2 hg2 hlen HX HI hcell hlk
    go_wp2_with fail
    go_ret
    exact HF.out

end Go.Proofs.Ytedlcmkhbccjgaa

