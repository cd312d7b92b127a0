/- Texts of FuB, FuV, FuW, LfP. Own work of the verifier. -/
import Derived.Test.YtaakpdakeolgeaaGreatUqbl
import Derived.Test.YtaakpdakeolgeaaGreatUqbk
import Derived.Test.YtaakpdakeolgeaaGreatUqar
import Derived.Test.YtaakpdakeolgeaaGreatUqbi
import Derived.Test.YtaakpdakeolgeaaGreatUqbj
import Derived.Test.YtaakpdakeolgeaaGreatUqbf
namespace Go.Proofs.YtaakpdakeolgeaaGreat
open Go Go.RowKit
set_option linter.unusedVariables false
theorem UniT.turn {x y : Tr} {bs : List Bnd} {c : Int} (h : UniT x y bs c) : UniT y x bs c := by
  unfold UniT at h ⊢
  rw [show [(y, x)] = ([(x, y)] : List TT).map turnP from rfl, run_turn]
  exact h
theorem UniIs.turn {xs ys : List Cel} {bs : List Bnd} {c : Int} (h : UniIs xs ys bs c) : UniIs ys xs bs c := by
  rcases h with ⟨h1, h2, a, k, a', k', e1, e2, o1, o2, h⟩ | ⟨h1, h2, h3⟩
  · exact .inl ⟨h2, h1, a', k', a, k, e2, e1, o2, o1, h.turn⟩
  · exact .inr ⟨fun h => h1 ⟨h.2, h.1⟩, h2, h3⟩
open Classical in
noncomputable def fullV (M : BM) (v : Int) : Tr := if h : ∃ g : Tr, FullF M (varT v).fo g.fo then Classical.choose h else varT v
theorem fullV_eq {M : BM} {v : Int} {g : Tr} (h : FullF M (varT v).fo g.fo) : fullV M v = g := by
  have hx : ∃ g : Tr, FullF M (varT v).fo g.fo := ⟨g, h⟩
  unfold fullV
  rw [dif_pos hx]
  have e := (Classical.choose_spec hx).det h
  simp only [Tr.fo, Fo.node.injEq, and_true] at e
  exact Prod.ext e.1 e.2
theorem full_app {M : BM} {F G : Fo} (h : FullF M F G) : F.ok → appF (fullV M) F = G := by
  induction h with
  | nil => intro _; rfl
  | @keep c k r k' r' h hk hr ihk ihr =>
    intro ho
    have b := ihr ho.2.2.2.2.2
    by_cases h0 : c.1 = 0
    · obtain ⟨e1, e2, _⟩ := text_nil ho h0
      subst e2
      cases hk
      have e : fullV M c.2.1 = (c, .nil) := fullV_eq (by
        show FullF M (.node (0, c.2.1, []) .nil .nil) (.node c .nil .nil)
        rw [← e1]
        exact .keep h .nil .nil)
      simp only [appF, if_pos h0, e, b]
    · simp only [appF, if_neg h0, ihk ho.2.2.2.2.1, b]
  | @put c r r' u g h0 hm hu hr ihu ihr =>
    intro ho
    obtain ⟨e1, _⟩ := text_nil ho h0
    have e : fullV M c.2.1 = g := fullV_eq (by
      show FullF M (.node (0, c.2.1, []) .nil .nil) (.node g.1 g.2 .nil)
      rw [← e1]
      exact .put h0 hm hu .nil)
    simp only [appF, if_pos h0, e, ihr ho.2.2.2.2.2]
theorem full_sub {M : BM} {t g : Tr} (ht : t.fo.ok) (h : FullF M t.fo g.fo) : (subF [] t.fo g.fo).isSome = true := by
  obtain ⟨e, he, _⟩ := sub_complete (fullV M) t.fo [] (fun v t h => by cases h)
  rw [full_app h ht] at he
  rw [he]; rfl
theorem uni_good {xs ys : List Cel} {bs : List Bnd} (h : UniIs xs ys bs 0) :
    validB xs = true ∧ validB ys = true ∧ substB bs = true ∧ ∃ x, applyC bs xs = x ∧ applyC bs ys = x ∧ applyC bs x = x ∧ (x.length ≤ 2000 → validB x = true ∧ SubsIs xs x true ∧ SubsIs ys x true) := by
  rcases h with ⟨h1, h2, a, k, a', k', e1, e2, o1, o2, h⟩ | ⟨_, _, h3⟩
  · unfold UniT at h
    have hw0 : WfU (fun _ => none) := ⟨⟨fun _ => 0, fun v u h => by cases h⟩, fun v u h => by cases h⟩
    have hok : ∀ p ∈ [(((a, k), (a', k')) : TT)], p.1.fo.ok ∧ p.2.fo.ok := fun p hp => by
      obtain rfl := List.mem_singleton.1 hp
      exact ⟨o1, o2⟩
    cases hr : runU 4 5 3 20000 (fun _ => none) [((a, k), (a', k'))] with
    | error c => rw [hr] at h; simp only at h; omega
    | ok r =>
      obtain ⟨M, n⟩ := r
      rw [hr] at h
      obtain ⟨ks, ⟨hp, hk⟩, hb⟩ := h
      obtain ⟨hw, _, hsm⟩ := run_sound _ _ _ hw0 hok M n hr
      have hrg := run_range _ _ _ hw0 (fun v u h => by cases h) hok M n hr
      obtain ⟨g, g1, g2⟩ := hsm ((a, k), (a', k')) (by simp)
      have go := g1.okF hw.ok o1
      cases hbr : bindR M ks with
      | none => rw [hbr] at hb; simp only at hb; omega
      | some l =>
        rw [hbr] at hb
        obtain ⟨rfl, _⟩ := hb
        unfold bindR at hbr
        split at hbr
        · rename_i hc
          simp only [Option.some.injEq] at hbr
          subst hbr
          have ex : fullC M (a, k) = g.1 :: g.2.cells := by rw [fullC_eq g1]; simp [Tr.fo, Fo.cells]
          have ey : fullC M (a', k') = g.1 :: g.2.cells := by rw [fullC_eq g2]; simp [Tr.fo, Fo.cells]
          have a1 : applyC (bndsU M ks) xs = g.1 :: g.2.cells := by rw [e1, ← ex]; exact apply_tree hw hk (t := (a, k)) o1
          have a2 : applyC (bndsU M ks) ys = g.1 :: g.2.cells := by rw [e2, ← ey]; exact apply_tree hw hk (t := (a', k')) o2
          have a3 : applyC (bndsU M ks) (g.1 :: g.2.cells) = g.1 :: g.2.cells := by rw [← ex]; exact apply_again hw hk (t := (a, k)) o1
          have hs : substB (bndsU M ks) = true := by
            unfold substB
            rw [Bool.and_eq_true]
            refine ⟨by simpa [bndsU] using hc.1, subst_bnds hw hrg ks (-1) hp (fun v hv => ?_) (fun v hv => ⟨(hk v).1 hv, hc.2 v hv⟩)⟩
            obtain ⟨u, hu⟩ := Option.isSome_iff_exists.1 ((hk v).1 hv)
            have := (hrg v u hu).1
            omega
          refine ⟨h1, h2, hs, _, a1, a2, a3, fun hl => ?_⟩
          have hv := valid_tree go hl
          exact ⟨hv, .inl ⟨h1, hv, a, k, g.1, g.2, e1, rfl, o1, go, validB_len h1, hl, (full_sub (t := (a, k)) o1 g1).symm⟩, .inl ⟨h2, hv, a', k', g.1, g.2, e2, rfl, o2, go, validB_len h2, hl, (full_sub (t := (a', k')) o2 g2).symm⟩⟩
        · cases hbr
  · omega
end Go.Proofs.YtaakpdakeolgeaaGreat

namespace Go.Proofs.YtaakpdakeolgeaaGreat
open Go Go.RowKit
set_option linter.unusedVariables false
theorem vs_cells : ∀ F : Fo, ∀ c ∈ F.cells, c.1 = 0 → c.2.1 ∈ vsF F
  | .nil, c, h, _ => by cases h
  | .node a k r, c, h, h0 => by
    rw [vs_node]
    simp only [Fo.cells, List.mem_cons, List.mem_append] at h
    rcases h with rfl | h | h
    · exact .inl ⟨h0, rfl⟩
    · exact .inr (.inl (vs_cells k c h h0))
    · exact .inr (.inr (vs_cells r c h h0))
theorem cells_vs : ∀ F : Fo, ∀ v ∈ vsF F, ∃ c ∈ F.cells, c.1 = 0 ∧ c.2.1 = v
  | .nil, v, h => by cases h
  | .node a k r, v, h => by
    rw [vs_node] at h
    rcases h with ⟨h0, rfl⟩ | h | h
    · exact ⟨a, by simp [Fo.cells], h0, rfl⟩
    · obtain ⟨c, h1, h2⟩ := cells_vs k v h
      exact ⟨c, by simp [Fo.cells, h1], h2⟩
    · obtain ⟨c, h1, h2⟩ := cells_vs r v h
      exact ⟨c, by simp [Fo.cells, h1], h2⟩
theorem ren_app {A B : List Int} : ∀ (F G : Fo), F.ok → G.ok → (∀ v ∈ vsF F, v ∈ A) → F.map (renI A) = G.map (renI B) → appF (fun v => varT (A.getD (B.idxOf v) 0)) G = F
  | .nil, .nil, _, _, _, _ => rfl
  | .nil, .node _ _ _, _, _, _, h => by simp [Fo.map] at h
  | .node _ _ _, .nil, _, _, _, h => by simp [Fo.map] at h
  | .node c k r, .node c' k' r', o1, o2, hv, h => by
    simp only [Fo.map, Fo.node.injEq] at h
    have hk := ren_app k k' o1.2.2.2.2.1 o2.2.2.2.2.1 (fun v h => hv v (by rw [vs_node]; exact .inr (.inl h))) h.2.1
    have hr := ren_app r r' o1.2.2.2.2.2 o2.2.2.2.2.2 (fun v h => hv v (by rw [vs_node]; exact .inr (.inr h))) h.2.2
    have hkd : c.1 = c'.1 := by
      have := congrArg Prod.fst h.1
      rwa [renI_kind, renI_kind] at this
    by_cases h0 : c.1 = 0
    · have h0' : c'.1 = 0 := by rw [← hkd]; exact h0
      obtain ⟨e1, e2, _⟩ := text_nil o1 h0
      have hi : A.idxOf c.2.1 = B.idxOf c'.2.1 := by
        have := congrArg (fun z : Cel => z.2.1) h.1
        simp only [renI, if_pos h0, if_pos h0'] at this
        omega
      have hm : c.2.1 ∈ A := hv _ (by rw [vs_node]; exact .inl ⟨h0, rfl⟩)
      have hlt := List.idxOf_lt_length_of_mem hm
      have hat : A.getD (B.idxOf c'.2.1) 0 = c.2.1 := by rw [← hi]; simp [List.getD, hlt]
      have ev : varT c.2.1 = (c, k) := by rw [e2]; exact Prod.ext e1.symm rfl
      simp only [appF, if_pos h0', hat, hr, ev]
    · have h0' : ¬ c'.1 = 0 := by rw [← hkd]; exact h0
      have he : c = c' := by
        have := h.1
        rwa [renI, renI, if_neg h0, if_neg h0'] at this
      simp only [appF, if_neg h0', hk, hr, he]
theorem app_fix {f : Int → Tr} : ∀ F : Fo, F.ok → appF f F = F → ∀ v ∈ vsF F, f v = varT v
  | .nil, _, _, v, h => by cases h
  | .node c k r, ho, he, v, h => by
    rw [vs_node] at h
    by_cases h0 : c.1 = 0
    · obtain ⟨e1, e2, _⟩ := text_nil ho h0
      simp only [appF, if_pos h0, Fo.node.injEq] at he
      rcases h with ⟨_, rfl⟩ | h | h
      · refine Prod.ext ?_ ?_
        · rw [he.1]; exact e1
        · rw [he.2.1, e2]; rfl
      · rw [e2] at h; cases h
      · exact app_fix r ho.2.2.2.2.2 he.2.2 v h
    · simp only [appF, if_neg h0, Fo.node.injEq, true_and] at he
      rcases h with ⟨h', _⟩ | h | h
      · exact absurd h' h0
      · exact app_fix k ho.2.2.2.2.1 he.1 v h
      · exact app_fix r ho.2.2.2.2.2 he.2 v h
def mvC (g : Int → Int) (c : Cel) : Cel := if c.1 = 0 then (c.1, g c.2.1, c.2.2) else c
theorem app_move {f : Int → Tr} : ∀ (F G : Fo), F.ok → G.ok → appF f F = G → (∀ v ∈ vsF F, (f v).1.1 = 0) → G.cells = F.cells.map (mvC (fun v => (f v).1.2.1))
  | .nil, G, _, _, he, _ => by rw [← he]; rfl
  | .node c k r, G, o1, o2, he, hv => by
    subst he
    by_cases h0 : c.1 = 0
    · obtain ⟨e1, e2, _⟩ := text_nil o1 h0
      have e3 : c.2.2 = [] := by rw [e1]
      simp only [appF, if_pos h0] at o2 ⊢
      have hz := hv c.2.1 (by rw [vs_node]; exact .inl ⟨h0, rfl⟩)
      obtain ⟨a1, a2, _⟩ := text_nil o2 hz
      have ih := app_move r _ o1.2.2.2.2.2 o2.2.2.2.2.2 rfl (fun v h => hv v (by rw [vs_node]; exact .inr (.inr h)))
      simp only [Fo.cells, a2, e2, List.nil_append, List.map_cons, ih, mvC, if_pos h0, e3]
      rw [a1, h0]
    · simp only [appF, if_neg h0] at o2 ⊢
      have ihk := app_move k _ o1.2.2.2.2.1 o2.2.2.2.2.1 rfl (fun v h => hv v (by rw [vs_node]; exact .inr (.inl h)))
      have ihr := app_move r _ o1.2.2.2.2.2 o2.2.2.2.2.2 rfl (fun v h => hv v (by rw [vs_node]; exact .inr (.inr h)))
      simp only [Fo.cells, List.map_cons, List.map_append, ihk, ihr, mvC, if_neg h0]
theorem mem_moved {g : Int → Int} {S : Int → Prop} (hg : ∀ a b, S a → S b → g a = g b → a = b) {ks : List Int} (hk : ∀ a ∈ ks, S a) {v : Int} (hv : S v) : g v ∈ ks.map g ↔ v ∈ ks := by
  constructor
  · intro h
    obtain ⟨a, h1, h2⟩ := List.mem_map.1 h
    rw [← hg a v (hk a h1) hv h2]; exact h1
  · exact List.mem_map_of_mem
theorem idx_moved {g : Int → Int} {S : Int → Prop} (hg : ∀ a b, S a → S b → g a = g b → a = b) : ∀ (ks : List Int), (∀ a ∈ ks, S a) → ∀ {v : Int}, S v → (ks.map g).idxOf (g v) = ks.idxOf v
  | [], _, v, _ => rfl
  | a :: r, hk, v, hv => by
    rw [List.map_cons, List.idxOf_cons, List.idxOf_cons, idx_moved hg r (fun b hb => hk b (by simp [hb])) hv]
    by_cases h : a = v
    · subst h; simp
    · have h1 : (a == v) = false := by simpa using h
      have h2 : (g a == g v) = false := by simpa using fun e => h (hg a v (hk a (by simp)) hv e)
      rw [h1, h2]
theorem visits_moved {g : Int → Int} {S : Int → Prop} (hg : ∀ a b, S a → S b → g a = g b → a = b) : ∀ (cs : List Cel) (ks : List Int), (∀ a ∈ ks, S a) → (∀ c ∈ cs, c.1 = 0 → S c.2.1) → visits (ks.map g) (cs.map (mvC g)) = (visits ks cs).map g
  | [], ks, _, _ => rfl
  | c :: r, ks, hk, hc => by
    rw [List.map_cons, visits_cons, visits_cons]
    by_cases h0 : c.1 = 0
    · have hs := hc c (by simp) h0
      have e1 : visitL ks c = putV ks c.2.1 := by rw [visitL, if_pos h0]
      have e2 : visitL (ks.map g) (mvC g c) = (putV ks c.2.1).map g := by
        rw [visitL, mvC, if_pos h0, if_pos h0]
        unfold putV
        by_cases hm : c.2.1 ∈ ks
        · rw [if_pos hm, if_pos ((mem_moved hg hk hs).2 hm)]
        · rw [if_neg hm, if_neg (fun h => hm ((mem_moved hg hk hs).1 h))]; simp
      rw [e1, e2]
      refine visits_moved hg r _ (fun a ha => ?_) (fun c hc' => hc c (by simp [hc']))
      unfold putV at ha
      split at ha
      · exact hk a ha
      · rcases List.mem_append.1 ha with ha | ha
        · exact hk a ha
        · obtain rfl := List.mem_singleton.1 ha
          exact hs
    · have e1 : visitL ks c = ks := by rw [visitL, if_neg h0]
      have e2 : visitL (ks.map g) (mvC g c) = ks.map g := by rw [mvC, if_neg h0, visitL, if_neg h0]
      rw [e1, e2]
      exact visits_moved hg r ks hk (fun c hc' => hc c (by simp [hc']))
theorem ren_moved {g : Int → Int} {S : Int → Prop} (hg : ∀ a b, S a → S b → g a = g b → a = b) (cs : List Cel) (hc : ∀ c ∈ cs, c.1 = 0 → S c.2.1) (hS : ∀ a ∈ visits [] cs, S a) : renCells (cs.map (mvC g)) = renCells cs := by
  unfold renCells
  have hv := visits_moved hg cs [] (fun a h => by cases h) hc
  rw [List.map_nil] at hv
  rw [hv, List.map_map]
  refine List.map_congr_left fun c h => ?_
  simp only [Function.comp]
  by_cases h0 : c.1 = 0
  · have := idx_moved hg (visits [] cs) hS (hc c h h0)
    simp only [mvC, if_pos h0, renI, this]
  · simp only [mvC, if_neg h0, renI]
theorem visits_from : ∀ (cs : List Cel) (ks : List Int) (S : Int → Prop), (∀ a ∈ ks, S a) → (∀ c ∈ cs, c.1 = 0 → S c.2.1) → ∀ a ∈ visits ks cs, S a
  | [], ks, S, hk, _, a, h => hk a h
  | c :: r, ks, S, hk, hc, a, h => by
    rw [visits_cons] at h
    refine visits_from r _ S (fun b hb => ?_) (fun c hc' => hc c (by simp [hc'])) a h
    unfold visitL at hb
    split at hb
    · rename_i h0
      unfold putV at hb
      split at hb
      · exact hk b hb
      · rcases List.mem_append.1 hb with hb | hb
        · exact hk b hb
        · obtain rfl := List.mem_singleton.1 hb
          exact hc c (by simp) h0
    · exact hk b hb
theorem variant_sub {x y : Tr} (ox : x.fo.ok) (oy : y.fo.ok) (lx : x.fo.cells.length ≤ 2000) (ly : y.fo.cells.length ≤ 2000) (h : (subF [] x.fo y.fo).isSome = true) : renCells x.fo.cells = renCells y.fo.cells ↔ (subF [] y.fo x.fo).isSome = true := by
  constructor
  · intro he
    have hA : (visits [] x.fo.cells).length ≤ 1000000 := by have := visits_len x.fo.cells []; simp at this; omega
    have hB : (visits [] y.fo.cells).length ≤ 1000000 := by have := visits_len y.fo.cells []; simp at this; omega
    have e := (Fo.cells_inj (x.fo.map (renI (visits [] x.fo.cells))) (y.fo.map (renI (visits [] y.fo.cells))) [] [] (Fo.ok_ren hA _ ox) (Fo.ok_ren hB _ oy) (by rw [Fo.count_map, Fo.count_map]; rfl) (by
      rw [List.append_nil, List.append_nil, Fo.cells_map, Fo.cells_map]
      exact he)).1
    have ha := ren_app x.fo y.fo ox oy (fun v hv => by
      obtain ⟨c, h1, h2, h3⟩ := cells_vs x.fo v hv
      rw [← h3]
      exact visits_mem _ _ c h1 h2) e
    obtain ⟨e', he', _⟩ := sub_complete (fun v => varT ((visits [] x.fo.cells).getD ((visits [] y.fo.cells).idxOf v) 0)) y.fo [] (fun v t h => by cases h)
    rw [ha] at he'
    rw [he']; rfl
  · intro h'
    obtain ⟨e1, h1⟩ := Option.isSome_iff_exists.1 h
    obtain ⟨e2, h2⟩ := Option.isSome_iff_exists.1 h'
    let θ : Int → Tr := fun v => match look e1 v with | some t => t | none => varT v
    let φ : Int → Tr := fun v => match look e2 v with | some t => t | none => varT v
    have a1 : appF θ x.fo = y.fo := sub_sound θ _ _ _ _ h1 (fun v t h => by show (match look e1 v with | some t => t | none => varT v) = t; rw [h])
    have a2 : appF φ y.fo = x.fo := sub_sound φ _ _ _ _ h2 (fun v t h => by show (match look e2 v with | some t => t | none => varT v) = t; rw [h])
    have a3 : appF (fun v => appT φ (θ v)) x.fo = x.fo := by rw [← appF_comp, a1, a2]
    have a4 := app_fix x.fo ox a3
    have a5 : ∀ v ∈ vsF x.fo, (θ v).1.1 = 0 := fun v hv => by
      have := a4 v hv
      unfold appT at this
      split at this
      · rename_i h0; exact h0
      · rename_i h0
        have h3 := congrArg (fun z : Tr => z.1.1) this
        exact h3
    have a6 : ∀ v ∈ vsF x.fo, φ (θ v).1.2.1 = varT v := fun v hv => by
      have := a4 v hv
      rwa [appT, if_pos (a5 v hv)] at this
    have hc := app_move x.fo y.fo ox oy a1 a5
    rw [hc]
    have hS : ∀ c ∈ x.fo.cells, c.1 = 0 → c.2.1 ∈ vsF x.fo := vs_cells x.fo
    exact (ren_moved (S := fun v => v ∈ vsF x.fo) (fun a b ha hb e => by
      have p := a6 a ha
      have q := a6 b hb
      rw [show (θ a).1.2.1 = (θ b).1.2.1 from e, q] at p
      have := congrArg (fun z : Tr => z.1.2.1) p
      exact this.symm) x.fo.cells hS (visits_from x.fo.cells [] _ (fun a h => by cases h) hS)).symm
end Go.Proofs.YtaakpdakeolgeaaGreat

namespace Go.Proofs.YtaakpdakeolgeaaGreat
open Go Go.RowKit
set_option linter.unusedVariables false
theorem node_inj {c c' : Cel} {k k' : Fo} (o : (Fo.node c k .nil).ok) (o' : (Fo.node c' k' .nil).ok) (h : c :: k.cells = c' :: k'.cells) : c = c' ∧ k = k' := by
  have e := (Fo.cells_inj (.node c k .nil) (.node c' k' .nil) [] [] o o' rfl (by simp only [Fo.cells, List.append_nil]; exact h)).1
  simp only [Fo.node.injEq, and_true] at e
  exact e
theorem UniIs.moved {xs ys : List Cel} {d : Int} (hd : 0 ≤ d) (h : SubsIs xs ys true) (hx : ∀ c ∈ xs, c.1 = 0 → c.2.1 < d) (hy : ∀ c ∈ ys, c.1 = 0 → c.2.1 + d ≤ 1000000) {bs : List Bnd} {code : Int} (hu : UniIs xs (ys.map (shC d)) bs code) : code = 0 ∨ code = 3 := by
  rcases h with ⟨v1, v2, c, k, c', k', ex, ey, o1, o2, l1, l2, hR⟩ | ⟨_, h⟩
  · have hvx : ∀ v ∈ vsT ((c, k) : Tr), v < d := fun v hv => by
      obtain ⟨z, h1, h2, h3⟩ := cells_vs (Tr.fo (c, k)) v hv
      rw [← h3]
      refine hx z ?_ h2
      rw [ex]; simpa [Tr.fo, Fo.cells] using h1
    have hvy : ∀ v ∈ vsT ((c', k') : Tr), v + d ≤ 1000000 := fun v hv => by
      obtain ⟨z, h1, h2, h3⟩ := cells_vs (Tr.fo (c', k')) v hv
      rw [← h3]
      refine hy z ?_ h2
      rw [ey]; simpa [Tr.fo, Fo.cells] using h1
    have oz := shF_ok d hd (Tr.fo (c', k')) o2 hvy
    have ez : ys.map (shC d) = shC d c' :: (shF d k').cells := by rw [ey, List.map_cons, shF_cells]
    have hv : validB (ys.map (shC d)) = true := by
      rw [ez]
      refine valid_tree (t := (shC d c', shF d k')) oz ?_
      rw [← ez, List.length_map]; exact l2
    have hrun := sub_unifies (cF := 4) (cC := 5) (cL := 3) (k := 20000) hd (x := (c, k)) (y := (c', k')) o1 o2 hvx hvy hR.symm
    rcases hu with ⟨_, _, a, m, a', m', e1, e2, p1, p2, hu⟩ | ⟨hb, _⟩
    · obtain ⟨rfl, rfl⟩ := node_inj o1 p1 (by rw [← ex, ← e1])
      obtain ⟨rfl, rfl⟩ := node_inj oz p2 (by rw [← ez, ← e2])
      unfold UniT at hu
      rcases hrun with hr | ⟨M, n, hr⟩
      · rw [show [((c, k), ((shC d c', shF d k') : Tr))] = [((c, k), (shC d ((c', k') : Tr).1, shF d ((c', k') : Tr).2))] from rfl, hr] at hu
        exact .inr hu.2.1
      · rw [show [((c, k), ((shC d c', shF d k') : Tr))] = [((c, k), (shC d ((c', k') : Tr).1, shF d ((c', k') : Tr).2))] from rfl, hr] at hu
        obtain ⟨ks, _, hb⟩ := hu
        split at hb
        · exact .inr hb.2
        · exact .inl hb.2
    · exact absurd ⟨v1, hv⟩ hb
  · cases h
theorem SubsIs.variant {xs ys : List Cel} (h : SubsIs xs ys true) {R : Bool} (h' : SubsIs ys xs R) : variantB xs ys = R := by
  rcases h with ⟨v1, v2, c, k, c', k', ex, ey, o1, o2, l1, l2, hR⟩ | ⟨_, h⟩
  · rcases h' with ⟨_, _, a, m, a', m', e1, e2, p1, p2, _, _, hR'⟩ | ⟨hb, _⟩
    · obtain ⟨rfl, rfl⟩ := node_inj o1 p2 (by rw [← ex, ← e2])
      obtain ⟨rfl, rfl⟩ := node_inj o2 p1 (by rw [← ey, ← e1])
      have fx : (Tr.fo (c, k)).cells = xs := by rw [ex]; simp [Tr.fo, Fo.cells]
      have fy : (Tr.fo (c', k')).cells = ys := by rw [ey]; simp [Tr.fo, Fo.cells]
      have hv := variant_sub (x := (c, k)) (y := (c', k')) o1 o2 (by rw [fx]; exact l1) (by rw [fy]; exact l2) hR.symm
      rw [fx, fy] at hv
      unfold variantB
      rw [v1, v2, Bool.true_and, Bool.true_and, hR']
      by_cases he : renCells xs = renCells ys
      · rw [decide_eq_true he]
        exact (hv.1 he).symm
      · rw [decide_eq_false he]
        cases hq : (subF [] (.node c' k' .nil) (.node c k .nil)).isSome with
        | false => rfl
        | true => exact absurd (hv.2 hq) he
    · exact absurd ⟨v2, v1⟩ hb
  · cases h
end Go.Proofs.YtaakpdakeolgeaaGreat

namespace Go.Proofs.YtaakpdakeolgeaaGreat
open Go Go.RowKit
set_option linter.unusedVariables false
def TAt (W : World) (p : Option Addr) (c : Nat) (cs : List Cel) : Prop := CIn W p cs ∧ cs.length ≤ c ∧ c ≤ 9223372036854775807
theorem TAt.below {W W' : World} {p : Option Addr} {c : Nat} {cs : List Cel} (h : TAt W p c cs) (hb : Below W.heap.size W W') : TAt W' p c cs := ⟨h.1.below hb, h.2⟩
theorem OwnC.tat {w : World} {B n c : Nat} {p : Option Addr} {cs : List Cel} (h : OwnC w B p n c cs) : TAt w p c cs := ⟨h.cin, h.cap⟩
theorem OwnBB.capB {w : World} {B U : Nat} {p : Option Addr} {n c : Nat} {bs : List Bnd} (h : OwnBB w B U p n c bs) : CapBd w p bs := fun b o hp i hi => by
  obtain ⟨ds, h⟩ := h
  have hl := h.len
  obtain ⟨g, cap, hv, hb, hg⟩ := h.row.form (by omega)
  simp only [Value.slice.injEq, true_and] at hv
  obtain ⟨rfl, rfl⟩ := hv
  cases hp
  have hc := (h.item i hi).toC
  refine ⟨(ds.getD i It.zero).1, (ds.getD i It.zero).2.1, ?_, hc.cap⟩
  rw [Nat.zero_add, h.row.cellAt (i * 2 + 1) (by omega)]
  exact pairRow_at1 _ _ _ _ hi
theorem fo_byteU : ∀ (F : Fo), F.ok → ∀ c ∈ F.cells, Byte c.2.2
  | .nil, _, c, h => by cases h
  | .node a k r, h, c, hc => by
    simp only [Fo.cells, List.mem_cons, List.mem_append] at hc
    rcases hc with rfl | hc | hc
    · exact h.2.1
    · exact fo_byteU k h.2.2.2.2.1 c hc
    · exact fo_byteU r h.2.2.2.2.2 c hc
theorem UniT.byte {x y : Tr} (hx : x.fo.ok) (hy : y.fo.ok) {bs : List Bnd} {c : Int} (h : UniT x y bs c) : ∀ b ∈ bs, ByteC b.2 := by
  unfold UniT at h
  cases hr : runU 4 5 3 20000 (fun _ => none) [(x, y)] with
  | error d =>
    rw [hr] at h
    obtain ⟨rfl, rfl, h1, h2⟩ := h
    exact fun b hb => by cases hb
  | ok r =>
    obtain ⟨M, n⟩ := r
    rw [hr] at h
    have hw := run_wfU 20000 _ _ WfU.zero (fun p hp => by rw [List.mem_singleton.1 hp]; exact ⟨hx, hy⟩) M n hr
    obtain ⟨ks, ha, hb⟩ := h
    by_cases hl : ks.length ≤ 1000 ∧ ∀ v ∈ ks, (bndU M v).2.length ≤ 2000
    · have e : bindR M ks = some (bndsU M ks) := by unfold bindR; rw [if_pos hl]
      rw [e] at hb
      obtain ⟨rfl, rfl⟩ := hb
      intro b hb c hc
      obtain ⟨v, hv, rfl⟩ := List.mem_map.1 hb
      obtain ⟨u, hu⟩ := Option.isSome_iff_exists.1 ((ha.2 v).1 hv)
      simp only [bndU, hu] at hc
      obtain ⟨g, hg⟩ := hw.full u (hw.ok _ _ hu)
      rw [fullC_eq hg] at hc
      exact fo_byteU g.fo (hg.okF hw.ok (hw.ok _ _ hu)) c hc
    · have e : bindR M ks = none := by unfold bindR; rw [if_neg hl]
      rw [e] at hb
      obtain ⟨rfl, rfl⟩ := hb
      exact fun b hb => by cases hb
theorem UniIs.byte {xs ys : List Cel} {bs : List Bnd} {c : Int} (h : UniIs xs ys bs c) : ∀ b ∈ bs, ByteC b.2 := by
  rcases h with ⟨_, _, a, k, a', k', _, _, h1, h2, h3⟩ | ⟨_, rfl, rfl⟩
  · exact UniT.byte (x := (a, k)) (y := (a', k')) h1 h2 h3
  · exact fun b hb => by cases hb
theorem validFrom_var : ∀ (cs : List Cel) (m : Int), validFrom m cs = true → ∀ c ∈ cs, c.1 = 0 → 0 ≤ c.2.1 ∧ c.2.1 ≤ 1000000
  | [], m, _, c, h => by cases h
  | d :: r, m, h, c, hc => by
    simp only [validFrom] at h
    split at h
    · cases h
    rename_i hd
    rcases List.mem_cons.1 hc with rfl | hc
    · intro h0
      cases hb : cellB c.1 c.2.1 c.2.2.length with
      | false => exact absurd (.inr hb) hd
      | true =>
        simp only [cellB, decide_eq_true_eq] at hb
        omega
    · exact validFrom_var r _ h c hc
theorem valid_var {cs : List Cel} (h : validB cs = true) (i : Nat) (hi : i < cs.length) (h0 : (cs.getD i Cel.none).1 = 0) : 0 ≤ (cs.getD i Cel.none).2.1 ∧ (cs.getD i Cel.none).2.1 ≤ 1000000 := by
  simp only [validB, Bool.and_eq_true] at h
  rw [List.getD, List.getElem?_eq_getElem hi] at h0 ⊢
  exact validFrom_var cs 1 h.2 _ (List.getElem_mem hi) h0
def mixS (S : List Cel) (j : Nat) : List Cel := (List.range S.length).map fun i => if i < j then shC 2000 (S.getD i Cel.none) else S.getD i Cel.none
theorem mixS_len (S : List Cel) (j : Nat) : (mixS S j).length = S.length := by simp [mixS]
theorem mixS_at (S : List Cel) (j i : Nat) (h : i < S.length) : (mixS S j).getD i Cel.none = if i < j then shC 2000 (S.getD i Cel.none) else S.getD i Cel.none := by
  simp [mixS, List.getD, h]
theorem mixS_zero (S : List Cel) : mixS S 0 = S := same_cells (mixS_len ..) (fun j hj => by rw [mixS_at _ _ _ (by rw [mixS_len] at hj; exact hj), if_neg (Nat.not_lt_zero _)])
theorem mixS_all (S : List Cel) : mixS S S.length = S.map (shC 2000) := same_cells (by simp [mixS]) (fun j hj => by
  rw [mixS_len] at hj
  rw [mixS_at _ _ _ hj, if_pos hj]
  simp [List.getD, hj])
theorem mixS_var (S : List Cel) (j : Nat) (h : j < S.length) (h0 : (S.getD j Cel.none).1 = 0) : (mixS S j).set j (((mixS S j).getD j Cel.none).1, (S.getD j Cel.none).2.1 + 2000, ((mixS S j).getD j Cel.none).2.2) = mixS S (j + 1) := same_cells (by simp [mixS]) (fun i hi => by
  rw [List.length_set, mixS_len] at hi
  rw [mixS_at _ _ _ hi, cs_set_at _ _ _ _ (by rw [mixS_len]; exact h)]
  by_cases e : i = j
  · subst e
    rw [if_pos rfl, if_pos (by omega), mixS_at _ _ _ h, if_neg (by omega), shC, if_pos h0]
  · rw [if_neg e, mixS_at _ _ _ hi]
    by_cases e2 : i < j
    · rw [if_pos e2, if_pos (by omega)]
    · rw [if_neg e2, if_neg (by omega)])
theorem mixS_skip (S : List Cel) (j : Nat) (h : j < S.length) (h0 : (S.getD j Cel.none).1 ≠ 0) : mixS S (j + 1) = mixS S j := same_cells (by simp [mixS]) (fun i hi => by
  rw [mixS_len] at hi
  rw [mixS_at _ _ _ hi, mixS_at _ _ _ hi]
  by_cases e : i = j
  · subst e
    rw [if_pos (by omega), if_neg (by omega), shC, if_neg h0]
  · by_cases e2 : i < j
    · rw [if_pos e2, if_pos (by omega)]
    · rw [if_neg e2, if_neg (by omega)])
theorem ByteC.sh {S : List Cel} (h : ByteC S) : ByteC (S.map (shC 2000)) := fun c hc => by
  obtain ⟨d, hd, rfl⟩ := List.mem_map.1 hc
  have := h d hd
  unfold shC
  split
  · exact this
  · exact this
structure OffG (g : Nat) (w w' : World) : Prop where
  os : w'.os = w.os
  tape : w'.tape = w.tape
  output : w'.output = w.output
  size : w.heap.size ≤ w'.heap.size
  block : ∀ k, k ≠ g → k < w.heap.size → w'.heap[k]? = w.heap[k]?
theorem OffG.refl (g : Nat) (w : World) : OffG g w w := ⟨rfl, rfl, rfl, Nat.le_refl _, fun _ _ _ => rfl⟩
theorem OffG.set {g : Nat} {w w' : World} (h : OffG g w w') (o : Nat) (u : Value) : OffG g w (w'.setCell ⟨g, o, none⟩ u) := ⟨h.os, h.tape, h.output, by have := h.size; simpa using this, fun k hk hs => by rw [heap_setCell_other _ _ _ _ (by simpa using hk)]; exact h.block k hk hs⟩
theorem OffG.below {g B : Nat} {w w' : World} (h : OffG g w w') (hg : B ≤ g) (hs : B ≤ w.heap.size) : Below B w w' := ⟨h.os, h.tape, h.output, h.size, fun k hk => h.block k (by omega) (by omega)⟩
end Go.Proofs.YtaakpdakeolgeaaGreat

