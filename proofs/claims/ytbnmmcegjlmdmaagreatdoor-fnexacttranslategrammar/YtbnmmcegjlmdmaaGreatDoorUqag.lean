/- Texts of GrP, GrQ, DolP, NbP. Own work of the verifier. -/
import Derived.Test.YtbnmmcegjlmdmaaGreatDoorUqaf
import Derived.Test.YtbnmmcegjlmdmaaGreatDoorUqaa
namespace Go.Proofs.YtbnmmcegjlmdmaaGreatDoor
open Go Go.RowKit
set_option linter.unusedVariables false
abbrev GSt := Int × Int
def flt (c : Int) (s : GSt) : GSt := if s.2 = 0 then (s.1, c) else s
def vT (n : Int) : Tr := ((0, n, []), .nil)
def cmpT (nm : List Int) (ts : List Tr) : Tr := ((3, (ts.length : Int), nm), itsF ts)
def eqV (a b : Int) : Tr := cmpT [61] [vT a, vT b]
def kidG (t : Tr) (i : Nat) : Tr := (trs t.2).getD i (Cel.none, .nil)
def lstT (e : Tr) : List Tr → Tr
  | [] => e
  | x :: r => (dot, .node x.1 x.2 (.node (lstT e r).1 (lstT e r).2 .nil))
abbrev nPhrase : List Int := [112, 104, 114, 97, 115, 101]
abbrev cComma : Cel := (3, 2, [44])
abbrev cThen : Cel := (3, 2, [45, 62])
abbrev cOr : Cel := (3, 2, [59])
abbrev cNot : Cel := (3, 1, [92, 43])
abbrev cCut : Cel := (2, 0, [33])
abbrev cCurly : Cel := (3, 1, [123, 125])
def gMore (J t : Tr) (a b : Int) (st : GSt) : Tr × GSt := if 20 < (trs t.2).length + 2 then (J, flt 3 st) else (cmpT t.1.2.2 (trs t.2 ++ [vT a, vT b]), st)
def gTer (J t : Tr) (a b : Int) (st : GSt) : Tr × GSt := if (splitF t.1 t.2).2.1 = nilC then (cmpT [61] [vT a, lstT (vT b) (splitF t.1 t.2).1], st) else (J, flt 4 st)
def gPh (J : Tr) : Nat → Tr → Int → Int → GSt → Tr × GSt
  | 0, t, a, b, st => (J, st)
  | f + 1, t, a, b, st =>
    if t.1.1 = 0 then (cmpT nPhrase [t, vT a, vT b], st)
    else if t.1.1 = 1 then (J, flt 4 st)
    else if t.1 = cComma ∨ t.1 = cThen then
      (cmpT t.1.2.2 [(gPh J f (kidG t 0) a st.1 (st.1 + 1, st.2)).1, (gPh J f (kidG t 1) st.1 b (gPh J f (kidG t 0) a st.1 (st.1 + 1, st.2)).2).1], (gPh J f (kidG t 1) st.1 b (gPh J f (kidG t 0) a st.1 (st.1 + 1, st.2)).2).2)
    else if t.1 = cOr then
      (cmpT [59] [(gPh J f (kidG t 0) a b st).1, (gPh J f (kidG t 1) a b (gPh J f (kidG t 0) a b st).2).1], (gPh J f (kidG t 1) a b (gPh J f (kidG t 0) a b st).2).2)
    else if t.1 = cNot then
      (cmpT [44] [cmpT [92, 43] [(gPh J f (kidG t 0) a st.1 (st.1 + 1, st.2)).1], eqV a b], (gPh J f (kidG t 0) a st.1 (st.1 + 1, st.2)).2)
    else if t.1 = cCut then (cmpT [44] [t, eqV a b], st)
    else if t.1 = cCurly then (cmpT [44] [kidG t 0, eqV a b], st)
    else if t.1 = nilC ∨ t.1 = dot then gTer J t a b st
    else gMore J t a b st
def gHd (J t : Tr) (a b : Int) (st : GSt) : Tr × GSt := if t.1.1 = 0 ∨ t.1.1 = 1 ∨ t.1 = nilC ∨ t.1 = dot then (J, flt 4 st) else gMore J t a b st
def gCl (J l r : Tr) (nx : Int) : Tr × GSt :=
  if l.1 = cComma then
    (cmpT [58, 45] [(gHd J (kidG l 0) nx (nx + 1) (nx + 3, 0)).1, cmpT [44] [(gPh J (itC r).length r nx (nx + 2) (gHd J (kidG l 0) nx (nx + 1) (nx + 3, 0)).2).1,
      (gTer J (kidG l 1) (nx + 1) (nx + 2) (gPh J (itC r).length r nx (nx + 2) (gHd J (kidG l 0) nx (nx + 1) (nx + 3, 0)).2).2).1]],
      (gTer J (kidG l 1) (nx + 1) (nx + 2) (gPh J (itC r).length r nx (nx + 2) (gHd J (kidG l 0) nx (nx + 1) (nx + 3, 0)).2).2).2)
  else (cmpT [58, 45] [(gHd J l nx (nx + 1) (nx + 2, 0)).1, (gPh J (itC r).length r nx (nx + 1) (gHd J l nx (nx + 1) (nx + 2, 0)).2).1], (gPh J (itC r).length r nx (nx + 1) (gHd J l nx (nx + 1) (nx + 2, 0)).2).2)
def gAns (x : Tr × GSt) : List Cel × Int := if x.2.2 ≠ 0 then ([], x.2.2) else if 2000 < (itC x.1).length ∨ 1000000 < x.2.1 - 1 then ([], 3) else (itC x.1, 0)
def cellG (k n : Int) (m : Nat) : Prop := (k = 0 ∧ 0 ≤ n ∧ n ≤ 1100000 ∧ m = 0) ∨ (k = 1 ∧ -1000000000000000 ≤ n ∧ n ≤ 1000000000000000 ∧ m = 0) ∨ (k = 2 ∧ m ≤ 100 ∧ n = 0) ∨ (k = 3 ∧ m ≤ 100 ∧ 1 ≤ n ∧ n ≤ 20)
def okG : Fo → Prop
  | .nil => True
  | .node c k r => cellG c.1 c.2.1 c.2.2.length ∧ Byte c.2.2 ∧ (c.1 = 3 → c.2.1 = k.count) ∧ (c.1 ≠ 3 → k = .nil) ∧ okG k ∧ okG r
theorem cellG_of {k n : Int} {m : Nat} (h : cellB k n m = true) : cellG k n m := by
  simp only [cellB, decide_eq_true_eq] at h
  unfold cellG; omega
theorem okG_of : ∀ {F : Fo}, F.ok → okG F
  | .nil, _ => trivial
  | .node c k r, h => ⟨cellG_of h.1, h.2.1, h.2.2.1, h.2.2.2.1, okG_of h.2.2.2.2.1, okG_of h.2.2.2.2.2⟩
def HasV (n : Int) (cs : List Cel) : Prop := ∃ c ∈ cs, c.1 = 0 ∧ c.2.1 = n
theorem hasV_app {n : Int} {a b : List Cel} : HasV n (a ++ b) ↔ HasV n a ∨ HasV n b := by
  constructor
  · rintro ⟨c, hc, h⟩
    rcases List.mem_append.1 hc with h1 | h1
    · exact .inl ⟨c, h1, h⟩
    · exact .inr ⟨c, h1, h⟩
  · rintro (⟨c, hc, h⟩ | ⟨c, hc, h⟩)
    · exact ⟨c, List.mem_append_left _ hc, h⟩
    · exact ⟨c, List.mem_append_right _ hc, h⟩
theorem hasV_cons {n : Int} {c : Cel} {r : List Cel} (hc : c.1 ≠ 0) : HasV n (c :: r) ↔ HasV n r := by
  constructor
  · rintro ⟨x, hx, h⟩
    rcases List.mem_cons.1 hx with rfl | hx
    · exact absurd h.1 hc
    · exact ⟨x, hx, h⟩
  · rintro ⟨x, hx, h⟩; exact ⟨x, List.mem_cons_of_mem _ hx, h⟩
theorem itsF_cells : ∀ ts : List Tr, (itsF ts).cells = ts.flatMap itC
  | [] => rfl
  | x :: r => by
    have ih := itsF_cells r
    simp only [itsF, Fo.cells, List.flatMap_cons, itC, ih, List.cons_append]
theorem itsF_okG : ∀ ts : List Tr, (∀ x ∈ ts, okG x.fo) → okG (itsF ts)
  | [], _ => trivial
  | x :: r, h => by
    have hx := h x (by simp)
    exact ⟨hx.1, hx.2.1, hx.2.2.1, hx.2.2.2.1, hx.2.2.2.2.1, itsF_okG r (fun y hy => h y (by simp [hy]))⟩
theorem cmpT_okG {nm : List Int} {ts : List Tr} (hb : Byte nm) (hl : nm.length ≤ 100) (h1 : 1 ≤ ts.length) (h2 : ts.length ≤ 20) (h : ∀ x ∈ ts, okG x.fo) : okG (cmpT nm ts).fo :=
  ⟨.inr (.inr (.inr ⟨rfl, hl, by show (1 : Int) ≤ (ts.length : Int); omega, by show (ts.length : Int) ≤ 20; omega⟩)), hb, fun _ => by show (ts.length : Int) = ((itsF ts).count : Int); rw [itsF_count], fun h => absurd rfl h, itsF_okG ts h, trivial⟩
theorem cmpT_cells (nm : List Int) (ts : List Tr) : itC (cmpT nm ts) = (3, (ts.length : Int), nm) :: ts.flatMap itC := by
  show _ :: (itsF ts).cells = _
  rw [itsF_cells]; rfl
theorem vT_okG {n : Int} (h0 : 0 ≤ n) (h1 : n ≤ 1100000) : okG (vT n).fo := ⟨.inl ⟨rfl, h0, h1, rfl⟩, (fun x hx => by cases hx), (fun h => absurd (show (0 : Int) = 3 from h) (by decide)), fun _ => rfl, trivial, trivial⟩
theorem vT_cells (n : Int) : itC (vT n) = [(0, n, [])] := rfl
theorem hasV_vT {n m : Int} : HasV n (itC (vT m)) ↔ n = m := by
  constructor
  · rintro ⟨c, hc, h⟩
    simp [vT_cells] at hc
    rw [hc] at h; exact h.2.symm
  · rintro rfl; exact ⟨(0, n, []), by simp [vT_cells], rfl, rfl⟩
theorem byte_small {l : List Int} (h : l.all (fun x => decide (0 ≤ x ∧ x < 256)) = true) : Byte l := fun x hx => by
  have := List.all_eq_true.1 h x hx
  simpa using this
theorem eqV_okG {a b : Int} (ha : 0 ≤ a ∧ a ≤ 1100000) (hb : 0 ≤ b ∧ b ≤ 1100000) : okG (eqV a b).fo :=
  cmpT_okG (byte_small (by decide)) (by decide) (by simp) (by simp) (fun x hx => by
    simp only [List.mem_cons, List.not_mem_nil, or_false] at hx
    rcases hx with rfl | rfl
    · exact vT_okG ha.1 ha.2
    · exact vT_okG hb.1 hb.2)
theorem trs_cells : ∀ F : Fo, (trs F).flatMap itC = F.cells
  | .nil => rfl
  | .node c k r => by
    simp only [trs, List.flatMap_cons, itC, Fo.cells, List.cons_append]
    rw [trs_cells r]
theorem trs_okG : ∀ {F : Fo}, F.ok → ∀ t ∈ trs F, t.fo.ok
  | .nil, _, t, ht => by cases ht
  | .node c k r, h, t, ht => by
    rcases List.mem_cons.1 ht with rfl | ht
    · exact ⟨h.1, h.2.1, h.2.2.1, h.2.2.2.1, h.2.2.2.2.1, trivial⟩
    · exact trs_okG h.2.2.2.2.2 t ht
theorem flatMap_len {a : Tr} : ∀ {l : List Tr}, a ∈ l → (itC a).length ≤ (l.flatMap itC).length
  | x :: r, h => by
    rcases List.mem_cons.1 h with rfl | h
    · simp
    · have := flatMap_len h; simp only [List.flatMap_cons, List.length_append]; omega
theorem kid_mem {t : Tr} {i : Nat} (h : i < t.2.count) : kidG t i ∈ trs t.2 := by
  unfold kidG
  rw [← trs_len] at h
  simp [List.getD, h]
theorem kid_ok {t : Tr} (ht : t.fo.ok) {i : Nat} (h : i < t.2.count) : (kidG t i).fo.ok ∧ (itC (kidG t i)).length + 1 ≤ (itC t).length := by
  have hm := kid_mem h
  refine ⟨trs_okG ht.2.2.2.2.1 _ hm, ?_⟩
  have := flatMap_len hm
  rw [trs_cells] at this
  simp only [itC, List.length_cons] at this ⊢
  omega
theorem two_kid {t : Tr} (h : t.2.count = 2) : trs t.2 = [kidG t 0, kidG t 1] := by
  have hl : (trs t.2).length = 2 := by rw [trs_len, h]
  unfold kidG
  match trs t.2, hl with
  | [a, b], _ => rfl
theorem one_kid {t : Tr} (h : t.2.count = 1) : trs t.2 = [kidG t 0] := by
  have hl : (trs t.2).length = 1 := by rw [trs_len, h]
  unfold kidG
  match trs t.2, hl with
  | [a], _ => rfl
theorem kids_cells (t : Tr) : t.2.cells = (trs t.2).flatMap itC := (trs_cells _).symm
theorem lstT_cells (e : Tr) : ∀ ts : List Tr, itC (lstT e ts) = ts.flatMap (fun x => dot :: itC x) ++ itC e
  | [] => rfl
  | x :: r => by
    have ih := lstT_cells e r
    have : itC (lstT e (x :: r)) = dot :: (itC x ++ itC (lstT e r)) := by simp [lstT, itC, Fo.cells]
    rw [this, ih]
    simp
theorem lstT_okG {e : Tr} (he : okG e.fo) : ∀ ts : List Tr, (∀ x ∈ ts, okG x.fo) → okG (lstT e ts).fo
  | [], _ => he
  | x :: r, h => by
    have hx := h x (by simp)
    have hr := lstT_okG he r (fun y hy => h y (by simp [hy]))
    exact ⟨.inr (.inr (.inr ⟨rfl, show ([46] : List Int).length ≤ 100 by decide, show (1 : Int) ≤ 2 by decide, show (2 : Int) ≤ 20 by decide⟩)), show Byte [46] from byte_small (by decide), fun _ => rfl, fun h => absurd rfl h, ⟨hx.1, hx.2.1, hx.2.2.1, hx.2.2.2.1, hx.2.2.2.2.1, hr.1, hr.2.1, hr.2.2.1, hr.2.2.2.1, hr.2.2.2.2.1, trivial⟩, trivial⟩
theorem split_all : ∀ (N : Nat) (c : Cel) (k : Fo), k.cells.length ≤ N → (Fo.node c k .nil).ok → (∀ x ∈ (splitF c k).1, (Tr.fo x).ok) ∧ (Tr.fo (splitF c k).2).ok ∧ c :: k.cells = (splitF c k).1.flatMap (fun x => dot :: itC x) ++ itC (splitF c k).2
  | N, c, k, hN, hok => by
    by_cases hd : c = dot
    · have h3 : c.1 = 3 := by rw [hd]; rfl
      have hc : k.count = 2 := by have := hok.2.2.1 h3; rw [hd] at this; have e : (dot.2.1 : Int) = 2 := rfl; omega
      obtain ⟨c1, k1, c2, k2, rfl⟩ := two_of hc
      subst hd
      rw [splitF_dot]
      have hk := hok.2.2.2.2.1
      have h1 : (Fo.node c1 k1 .nil).ok := ⟨hk.1, hk.2.1, hk.2.2.1, hk.2.2.2.1, hk.2.2.2.2.1, trivial⟩
      have h2 : (Fo.node c2 k2 .nil).ok := hk.2.2.2.2.2
      cases N with
      | zero => simp [Fo.cells] at hN
      | succ N =>
        have ih := split_all N c2 k2 (by simp [Fo.cells] at hN; omega) h2
        refine ⟨fun x hx => ?_, ih.2.1, ?_⟩
        · rcases List.mem_cons.1 hx with rfl | hx
          · exact h1
          · exact ih.1 x hx
        · have e : dot :: (Fo.node c1 k1 (.node c2 k2 .nil)).cells = dot :: (c1 :: k1.cells) ++ (c2 :: k2.cells) := by simp [Fo.cells]
          rw [e, ih.2.2]
          simp [itC]
    · rw [splitF_other _ _ hd]
      exact ⟨(fun x hx => by cases hx), hok, rfl⟩
structure GOk (t : Tr) (n : Nat) (st : GSt) (x : Tr × GSt) : Prop where
  ok : okG x.1.fo
  len : (itC x.1).length ≤ 5 * n
  up : st.1 ≤ x.2.1
  few : x.2.1 ≤ st.1 + n
theorem flt_fst (c : Int) (st : GSt) : (flt c st).1 = st.1 := by unfold flt; split <;> rfl
theorem flt_snd {c : Int} (hc : c ≠ 0) (st : GSt) : (flt c st).2 ≠ 0 := by
  unfold flt; split
  · exact hc
  · rename_i h; exact h
theorem flt_keep {c : Int} {st : GSt} (h : st.2 ≠ 0) : flt c st = st := by unfold flt; rw [if_neg h]
theorem gMore_ok {J t : Tr} (hJ : okG J.fo ∧ (itC J).length = 1) {a b : Int} (ha : 0 ≤ a ∧ a ≤ 1100000) (hb : 0 ≤ b ∧ b ≤ 1100000) (st : GSt) (ht : t.fo.ok) : GOk t (itC t).length st (gMore J t a b st) := by
  have hp : 1 ≤ (itC t).length := by simp [itC]
  unfold gMore
  split
  · exact ⟨hJ.1, by show (itC J).length ≤ _; omega, by show st.1 ≤ (flt 3 st).1; rw [flt_fst]; omega, by show (flt 3 st).1 ≤ _; rw [flt_fst]; omega⟩
  · rename_i h
    refine ⟨cmpT_okG ht.2.1 (by have := ht.1; simp only [cellB, decide_eq_true_eq] at this; omega) (by simp) (by simp; omega) (fun x hx => ?_), ?_, Int.le_refl _, by show st.1 ≤ st.1 + _; omega⟩
    · rcases List.mem_append.1 hx with h1 | h1
      · exact okG_of (trs_okG ht.2.2.2.2.1 x h1)
      · simp only [List.mem_cons, List.not_mem_nil, or_false] at h1
        rcases h1 with rfl | rfl
        · exact vT_okG ha.1 ha.2
        · exact vT_okG hb.1 hb.2
    · rw [cmpT_cells, List.flatMap_append, trs_cells]
      simp only [itC, List.length_cons, List.length_append, List.flatMap_cons, List.flatMap_nil, vT, Fo.cells, List.length_nil] at hp ⊢
      omega
theorem gTer_ok {J t : Tr} (hJ : okG J.fo ∧ (itC J).length = 1) {a b : Int} (ha : 0 ≤ a ∧ a ≤ 1100000) (hb : 0 ≤ b ∧ b ≤ 1100000) (st : GSt) (ht : t.fo.ok) : GOk t (itC t).length st (gTer J t a b st) := by
  have hp : 1 ≤ (itC t).length := by simp [itC]
  obtain ⟨s1, s2, s3⟩ := split_all t.2.cells.length t.1 t.2 (Nat.le_refl _) ht
  unfold gTer
  split
  · refine ⟨cmpT_okG (byte_small (by decide)) (by decide) (by simp) (by simp) (fun x hx => ?_), ?_, Int.le_refl _, by show st.1 ≤ st.1 + _; omega⟩
    · simp only [List.mem_cons, List.not_mem_nil, or_false] at hx
      rcases hx with rfl | rfl
      · exact vT_okG ha.1 ha.2
      · exact lstT_okG (vT_okG hb.1 hb.2) _ (fun y hy => okG_of (s1 y hy))
    · have h9 := congrArg List.length s3
      rw [cmpT_cells]
      simp only [List.flatMap_cons, List.flatMap_nil, List.length_cons, List.length_append, lstT_cells, vT_cells, List.length_nil] at h9 ⊢
      have h8 : (itC t).length = t.2.cells.length + 1 := by simp [itC]
      omega
  · exact ⟨hJ.1, by show (itC J).length ≤ _; omega, by show st.1 ≤ (flt 4 st).1; rw [flt_fst]; omega, by show (flt 4 st).1 ≤ _; rw [flt_fst]; omega⟩
theorem count_of {t : Tr} (ht : t.fo.ok) {n : Nat} {nm : List Int} (h : t.1 = (3, (n : Int), nm)) : t.2.count = n := by
  have := ht.2.2.1 (by rw [h])
  rw [h] at this
  simp only at this
  omega
theorem mem2 {a b x : Tr} (h : x ∈ [a, b]) : x = a ∨ x = b := by simpa using h
set_option maxHeartbeats 1000000 in
theorem gPh_ok {J : Tr} (hJ : okG J.fo ∧ (itC J).length = 1) : ∀ (f : Nat) (t : Tr) (a b : Int) (st : GSt), t.fo.ok → (itC t).length ≤ f → 0 ≤ a ∧ a ≤ 1100000 → 0 ≤ b ∧ b ≤ 1100000 → 0 ≤ st.1 → st.1 + (itC t).length ≤ 1100000 → GOk t (itC t).length st (gPh J f t a b st)
  | 0, t, a, b, st, ht, hf, _, _, _, _ => by simp [itC] at hf
  | f + 1, t, a, b, st, ht, hf, ha, hb, h0, h1 => by
    have hp : 1 ≤ (itC t).length := by simp [itC]
    have ih := gPh_ok hJ f
    have hsz : (itC t).length = ((trs t.2).flatMap itC).length + 1 := by rw [trs_cells]; simp [itC]
    unfold gPh
    split
    · refine ⟨cmpT_okG (byte_small (by decide)) (by decide) (by simp) (by simp) (fun x hx => ?_), ?_, Int.le_refl _, by show st.1 ≤ st.1 + _; omega⟩
      · simp only [List.mem_cons, List.not_mem_nil, or_false] at hx
        rcases hx with rfl | rfl | rfl
        · exact okG_of ht
        · exact vT_okG ha.1 ha.2
        · exact vT_okG hb.1 hb.2
      · rw [cmpT_cells]; simp only [List.flatMap_cons, List.flatMap_nil, List.length_cons, List.length_append, vT_cells, List.length_nil]; omega
    · split
      · exact ⟨hJ.1, by show (itC J).length ≤ _; omega, by show st.1 ≤ (flt 4 st).1; rw [flt_fst]; omega, by show (flt 4 st).1 ≤ _; rw [flt_fst]; omega⟩
      · split
        · rename_i hc
          have hcnt : t.2.count = 2 := by rcases hc with h | h <;> exact count_of ht (n := 2) h
          have k0 := kid_ok ht (i := 0) (by omega)
          have k1 := kid_ok ht (i := 1) (by omega)
          rw [two_kid hcnt] at hsz
          simp only [List.flatMap_cons, List.flatMap_nil, List.length_append, List.length_nil] at hsz
          have g0 := ih (kidG t 0) a st.1 (st.1 + 1, st.2) k0.1 (by omega) ha ⟨h0, by omega⟩ (by show 0 ≤ st.1 + 1; omega) (by show st.1 + 1 + _ ≤ _; omega)
          have u0 := g0.up; have w0 := g0.few
          simp only at u0 w0
          have g1 := ih (kidG t 1) st.1 b (gPh J f (kidG t 0) a st.1 (st.1 + 1, st.2)).2 k1.1 (by omega) ⟨h0, by omega⟩ hb (by omega) (by omega)
          have u1 := g1.up; have w1 := g1.few; have l0 := g0.len; have l1 := g1.len
          refine ⟨cmpT_okG ht.2.1 (by have := ht.1; simp only [cellB, decide_eq_true_eq] at this; omega) (by simp) (by simp) (fun x hx => ?_), ?_, by show st.1 ≤ (gPh J f (kidG t 1) st.1 b (gPh J f (kidG t 0) a st.1 (st.1 + 1, st.2)).2).2.1; omega, by show (gPh J f (kidG t 1) st.1 b (gPh J f (kidG t 0) a st.1 (st.1 + 1, st.2)).2).2.1 ≤ st.1 + ((itC t).length : Int); omega⟩
          · rcases mem2 hx with rfl | rfl
            · exact g0.ok
            · exact g1.ok
          · rw [cmpT_cells]; simp only [List.flatMap_cons, List.flatMap_nil, List.length_cons, List.length_append, List.length_nil]; omega
        · split
          · rename_i hc
            have hcnt : t.2.count = 2 := count_of ht (n := 2) hc
            have k0 := kid_ok ht (i := 0) (by omega)
            have k1 := kid_ok ht (i := 1) (by omega)
            rw [two_kid hcnt] at hsz
            simp only [List.flatMap_cons, List.flatMap_nil, List.length_append, List.length_nil] at hsz
            have g0 := ih (kidG t 0) a b st k0.1 (by omega) ha hb h0 (by omega)
            have u0 := g0.up; have w0 := g0.few
            have g1 := ih (kidG t 1) a b (gPh J f (kidG t 0) a b st).2 k1.1 (by omega) ha hb (by omega) (by omega)
            have u1 := g1.up; have w1 := g1.few; have l0 := g0.len; have l1 := g1.len
            refine ⟨cmpT_okG (byte_small (by decide)) (by decide) (by simp) (by simp) (fun x hx => ?_), ?_, by show st.1 ≤ (gPh J f (kidG t 1) a b (gPh J f (kidG t 0) a b st).2).2.1; omega, by show (gPh J f (kidG t 1) a b (gPh J f (kidG t 0) a b st).2).2.1 ≤ st.1 + ((itC t).length : Int); omega⟩
            · rcases mem2 hx with rfl | rfl
              · exact g0.ok
              · exact g1.ok
            · rw [cmpT_cells]; simp only [List.flatMap_cons, List.flatMap_nil, List.length_cons, List.length_append, List.length_nil]; omega
          · split
            · rename_i hc
              have hcnt : t.2.count = 1 := count_of ht (n := 1) hc
              have k0 := kid_ok ht (i := 0) (by omega)
              have g0 := ih (kidG t 0) a st.1 (st.1 + 1, st.2) k0.1 (by omega) ha ⟨h0, by omega⟩ (by show 0 ≤ st.1 + 1; omega) (by show st.1 + 1 + _ ≤ _; omega)
              have u0 := g0.up; have w0 := g0.few; have l0 := g0.len
              simp only at u0 w0
              refine ⟨cmpT_okG (byte_small (by decide)) (by decide) (by simp) (by simp) (fun x hx => ?_), ?_, by show st.1 ≤ (gPh J f (kidG t 0) a st.1 (st.1 + 1, st.2)).2.1; omega, by show (gPh J f (kidG t 0) a st.1 (st.1 + 1, st.2)).2.1 ≤ st.1 + ((itC t).length : Int); omega⟩
              · rcases mem2 hx with rfl | rfl
                · exact cmpT_okG (byte_small (by decide)) (by decide) (by simp) (by simp) (fun y hy => by
                    have : y = (gPh J f (kidG t 0) a st.1 (st.1 + 1, st.2)).1 := by simpa using hy
                    rw [this]; exact g0.ok)
                · exact eqV_okG ha hb
              · rw [cmpT_cells]; simp only [eqV, cmpT_cells, List.flatMap_cons, List.flatMap_nil, List.length_cons, List.length_append, List.length_nil, vT_cells]; omega
            · split
              · refine ⟨cmpT_okG (byte_small (by decide)) (by decide) (by simp) (by simp) (fun x hx => ?_), ?_, Int.le_refl _, by show st.1 ≤ st.1 + _; omega⟩
                · rcases mem2 hx with rfl | rfl
                  · exact okG_of ht
                  · exact eqV_okG ha hb
                · rw [cmpT_cells]; simp only [eqV, cmpT_cells, List.flatMap_cons, List.flatMap_nil, List.length_cons, List.length_append, List.length_nil, vT_cells]; omega
              · split
                · rename_i hc
                  have hcnt : t.2.count = 1 := count_of ht (n := 1) hc
                  have k0 := kid_ok ht (i := 0) (by omega)
                  refine ⟨cmpT_okG (byte_small (by decide)) (by decide) (by simp) (by simp) (fun x hx => ?_), ?_, Int.le_refl _, by show st.1 ≤ st.1 + _; omega⟩
                  · rcases mem2 hx with rfl | rfl
                    · exact okG_of k0.1
                    · exact eqV_okG ha hb
                  · rw [cmpT_cells]; simp only [eqV, cmpT_cells, List.flatMap_cons, List.flatMap_nil, List.length_cons, List.length_append, List.length_nil, vT_cells]; omega
                · split
                  · exact gTer_ok hJ ha hb st ht
                  · exact gMore_ok hJ ha hb st ht
end Go.Proofs.YtbnmmcegjlmdmaaGreatDoor

namespace Go.Proofs.YtbnmmcegjlmdmaaGreatDoor
open Go Go.RowKit
set_option linter.unusedVariables false
theorem gMore_st {J t : Tr} {a b : Int} {st : GSt} (h : (gMore J t a b st).2.2 = 0) : st.2 = 0 ∧ ¬ 20 < (trs t.2).length + 2 := by
  unfold gMore at h
  split at h
  · exact absurd h (flt_snd (by decide) st)
  · rename_i h1; exact ⟨h, h1⟩
theorem gTer_st {J t : Tr} {a b : Int} {st : GSt} (h : (gTer J t a b st).2.2 = 0) : st.2 = 0 ∧ (splitF t.1 t.2).2.1 = nilC := by
  unfold gTer at h
  split at h
  · rename_i h1; exact ⟨h, h1⟩
  · exact absurd h (flt_snd (by decide) st)
theorem gMore_keep {J t : Tr} {a b : Int} {st : GSt} (h : st.2 ≠ 0) : (gMore J t a b st).2 = st := by
  unfold gMore
  split
  · exact flt_keep h
  · rfl
theorem gTer_keep {J t : Tr} {a b : Int} {st : GSt} (h : st.2 ≠ 0) : (gTer J t a b st).2 = st := by
  unfold gTer
  split
  · rfl
  · exact flt_keep h
theorem gPh_keep {J : Tr} : ∀ (f : Nat) (t : Tr) (a b : Int) (st : GSt), st.2 ≠ 0 → (gPh J f t a b st).2.2 = st.2
  | 0, t, a, b, st, h => rfl
  | f + 1, t, a, b, st, h => by
    have ih := gPh_keep (J := J) f
    unfold gPh
    split
    · rfl
    · split
      · show (flt 4 st).2 = _; rw [flt_keep h]
      · split
        · have e := ih (kidG t 0) a st.1 (st.1 + 1, st.2) h
          show (gPh J f (kidG t 1) st.1 b _).2.2 = _
          rw [ih (kidG t 1) st.1 b _ (by rw [e]; exact h), e]
        · split
          · have e := ih (kidG t 0) a b st h
            show (gPh J f (kidG t 1) a b _).2.2 = _
            rw [ih (kidG t 1) a b _ (by rw [e]; exact h), e]
          · split
            · exact ih (kidG t 0) a st.1 (st.1 + 1, st.2) h
            · split
              · rfl
              · split
                · rfl
                · split
                  · rw [gTer_keep h]
                  · rw [gMore_keep h]
theorem gPh_st {J : Tr} {f : Nat} {t : Tr} {a b : Int} {st : GSt} (h : (gPh J f t a b st).2.2 = 0) : st.2 = 0 := by
  by_cases h0 : st.2 = 0
  · exact h0
  · rw [gPh_keep f t a b st h0] at h; exact h
theorem gMore_J (J J' t : Tr) (a b : Int) (st : GSt) : (gMore J t a b st).2 = (gMore J' t a b st).2 ∧ ((gMore J t a b st).2.2 = 0 → (gMore J t a b st).1 = (gMore J' t a b st).1) := by
  refine ⟨by unfold gMore; split <;> rfl, fun h => ?_⟩
  have := (gMore_st h).2
  unfold gMore
  rw [if_neg this, if_neg this]
theorem gTer_J (J J' t : Tr) (a b : Int) (st : GSt) : (gTer J t a b st).2 = (gTer J' t a b st).2 ∧ ((gTer J t a b st).2.2 = 0 → (gTer J t a b st).1 = (gTer J' t a b st).1) := by
  refine ⟨by unfold gTer; split <;> rfl, fun h => ?_⟩
  have := (gTer_st h).2
  unfold gTer
  rw [if_pos this, if_pos this]
theorem gPh_J (J J' : Tr) : ∀ (f : Nat) (t : Tr) (a b : Int) (st : GSt), (itC t).length ≤ f → (t.1 = cComma ∨ t.1 = cThen ∨ t.1 = cOr → t.2.count = 2) → t.fo.ok → (gPh J f t a b st).2 = (gPh J' f t a b st).2 ∧ ((gPh J f t a b st).2.2 = 0 → (gPh J f t a b st).1 = (gPh J' f t a b st).1)
  | 0, t, a, b, st, hf, _, _ => by simp [itC] at hf
  | f + 1, t, a, b, st, hf, _, ht => by
    have ih := fun (u : Tr) (a b : Int) (st : GSt) (h1 : (itC u).length ≤ f) (h2 : u.fo.ok) => gPh_J J J' f u a b st h1 (fun h => by rcases h with h | h | h <;> exact count_of h2 (n := 2) h) h2
    by_cases k0 : t.1.1 = 0
    · simp only [gPh, if_pos k0]; exact ⟨trivial, fun _ => trivial⟩
    by_cases k1 : t.1.1 = 1
    · simp only [gPh, if_neg k0, if_pos k1]; exact ⟨trivial, fun h => absurd h (flt_snd (by decide) st)⟩
    by_cases k2 : t.1 = cComma ∨ t.1 = cThen
    · have hcnt : t.2.count = 2 := by rcases k2 with h | h <;> exact count_of ht (n := 2) h
      have q0 := kid_ok ht (i := 0) (by omega)
      have q1 := kid_ok ht (i := 1) (by omega)
      simp only [gPh, if_neg k0, if_neg k1, if_pos k2]
      have e0 := ih (kidG t 0) a st.1 (st.1 + 1, st.2) (by omega) q0.1
      rw [← e0.1]
      have e1 := ih (kidG t 1) st.1 b (gPh J f (kidG t 0) a st.1 (st.1 + 1, st.2)).2 (by omega) q1.1
      rw [← e1.1]
      exact ⟨rfl, fun h => by rw [e1.2 h, e0.2 (gPh_st h)]⟩
    by_cases k3 : t.1 = cOr
    · have hcnt : t.2.count = 2 := count_of ht (n := 2) k3
      have q0 := kid_ok ht (i := 0) (by omega)
      have q1 := kid_ok ht (i := 1) (by omega)
      simp only [gPh, if_neg k0, if_neg k1, if_neg k2, if_pos k3]
      have e0 := ih (kidG t 0) a b st (by omega) q0.1
      rw [← e0.1]
      have e1 := ih (kidG t 1) a b (gPh J f (kidG t 0) a b st).2 (by omega) q1.1
      rw [← e1.1]
      exact ⟨rfl, fun h => by rw [e1.2 h, e0.2 (gPh_st h)]⟩
    by_cases k4 : t.1 = cNot
    · have hcnt : t.2.count = 1 := count_of ht (n := 1) k4
      have q0 := kid_ok ht (i := 0) (by omega)
      simp only [gPh, if_neg k0, if_neg k1, if_neg k2, if_neg k3, if_pos k4]
      have e0 := ih (kidG t 0) a st.1 (st.1 + 1, st.2) (by omega) q0.1
      rw [← e0.1]
      exact ⟨rfl, fun h => by rw [e0.2 h]⟩
    by_cases k5 : t.1 = cCut
    · simp only [gPh, if_neg k0, if_neg k1, if_neg k2, if_neg k3, if_neg k4, if_pos k5]; exact ⟨trivial, fun _ => trivial⟩
    by_cases k6 : t.1 = cCurly
    · simp only [gPh, if_neg k0, if_neg k1, if_neg k2, if_neg k3, if_neg k4, if_neg k5, if_pos k6]; exact ⟨trivial, fun _ => trivial⟩
    by_cases k7 : t.1 = nilC ∨ t.1 = dot
    · simp only [gPh, if_neg k0, if_neg k1, if_neg k2, if_neg k3, if_neg k4, if_neg k5, if_neg k6, if_pos k7]; exact gTer_J J J' t a b st
    · simp only [gPh, if_neg k0, if_neg k1, if_neg k2, if_neg k3, if_neg k4, if_neg k5, if_neg k6, if_neg k7]; exact gMore_J J J' t a b st
structure GVar (t : Tr) (a b : Int) (st : GSt) (x : Tr × GSt) : Prop where
  last : HasV b (itC x.1)
  all : ∀ n, st.1 ≤ n → n < x.2.1 → HasV n (itC x.1)
  none : ∀ n, HasV n (itC x.1) → HasV n (itC t) ∨ n = a ∨ n = b ∨ (st.1 ≤ n ∧ n < x.2.1)
theorem hasV_cmp {n : Int} {nm : List Int} {ts : List Tr} : HasV n (itC (cmpT nm ts)) ↔ ∃ x ∈ ts, HasV n (itC x) := by
  rw [cmpT_cells, hasV_cons (show (3 : Int) ≠ 0 by decide)]
  constructor
  · rintro ⟨c, hc, h⟩
    obtain ⟨x, hx, hc⟩ := List.mem_flatMap.1 hc
    exact ⟨x, hx, c, hc, h⟩
  · rintro ⟨x, hx, c, hc, h⟩
    exact ⟨c, List.mem_flatMap.2 ⟨x, hx, hc⟩, h⟩
theorem hasV_kid {n : Int} {t x : Tr} (hx : x ∈ trs t.2) (h : HasV n (itC x)) : HasV n (itC t) := by
  obtain ⟨c, hc, h⟩ := h
  refine ⟨c, List.mem_cons_of_mem _ ?_, h⟩
  rw [kids_cells]
  exact List.mem_flatMap.2 ⟨x, hx, hc⟩
theorem hasV_lst {n : Int} {e : Tr} {ts : List Tr} : HasV n (itC (lstT e ts)) ↔ (∃ x ∈ ts, HasV n (itC x)) ∨ HasV n (itC e) := by
  rw [lstT_cells, hasV_app]
  refine or_congr ?_ Iff.rfl
  constructor
  · rintro ⟨c, hc, h⟩
    obtain ⟨x, hx, hc⟩ := List.mem_flatMap.1 hc
    rcases List.mem_cons.1 hc with rfl | hc
    · exact absurd h.1 (by decide)
    · exact ⟨x, hx, c, hc, h⟩
  · rintro ⟨x, hx, c, hc, h⟩
    exact ⟨c, List.mem_flatMap.2 ⟨x, hx, List.mem_cons_of_mem _ hc⟩, h⟩
theorem gMore_var {J t : Tr} {a b : Int} {st : GSt} (h : (gMore J t a b st).2.2 = 0) : GVar t a b st (gMore J t a b st) := by
  have h1 := (gMore_st h).2
  unfold gMore
  rw [if_neg h1]
  refine ⟨hasV_cmp.2 ⟨vT b, by simp, hasV_vT.2 rfl⟩, fun n h2 h3 => absurd h3 (by show ¬ n < st.1; omega), fun n hn => ?_⟩
  obtain ⟨x, hx, hv⟩ := hasV_cmp.1 hn
  rcases List.mem_append.1 hx with h4 | h4
  · exact .inl (hasV_kid h4 hv)
  · simp only [List.mem_cons, List.not_mem_nil, or_false] at h4
    rcases h4 with rfl | rfl
    · exact .inr (.inl (hasV_vT.1 hv))
    · exact .inr (.inr (.inl (hasV_vT.1 hv)))
theorem gTer_var {J t : Tr} {a b : Int} {st : GSt} (ht : t.fo.ok) (h : (gTer J t a b st).2.2 = 0) : GVar t a b st (gTer J t a b st) := by
  have h1 := (gTer_st h).2
  obtain ⟨s1, s2, s3⟩ := split_all t.2.cells.length t.1 t.2 (Nat.le_refl _) ht
  unfold gTer
  rw [if_pos h1]
  refine ⟨hasV_cmp.2 ⟨lstT (vT b) (splitF t.1 t.2).1, by simp, hasV_lst.2 (.inr (hasV_vT.2 rfl))⟩, fun n h2 h3 => absurd h3 (by show ¬ n < st.1; omega), fun n hn => ?_⟩
  obtain ⟨x, hx, hv⟩ := hasV_cmp.1 hn
  rcases mem2 hx with rfl | rfl
  · exact .inr (.inl (hasV_vT.1 hv))
  · rcases hasV_lst.1 hv with ⟨y, hy, c, hc, hv⟩ | hv
    · refine .inl ⟨c, ?_, hv⟩
      show c ∈ t.1 :: t.2.cells
      rw [s3]
      exact List.mem_append_left _ (List.mem_flatMap.2 ⟨y, hy, List.mem_cons_of_mem _ hc⟩)
    · exact .inr (.inr (.inl (hasV_vT.1 hv)))
theorem hasV_eq {n a b : Int} : HasV n (itC (eqV a b)) ↔ n = a ∨ n = b := by
  unfold eqV
  rw [hasV_cmp]
  constructor
  · rintro ⟨x, hx, h⟩
    rcases mem2 hx with rfl | rfl
    · exact .inl (hasV_vT.1 h)
    · exact .inr (hasV_vT.1 h)
  · rintro (rfl | rfl)
    · exact ⟨vT n, by simp, hasV_vT.2 rfl⟩
    · exact ⟨vT n, by simp, hasV_vT.2 rfl⟩
theorem gPh_var {J : Tr} (hJ : okG J.fo ∧ (itC J).length = 1) : ∀ (f : Nat) (t : Tr) (a b : Int) (st : GSt), t.fo.ok → (itC t).length ≤ f → 0 ≤ a ∧ a ≤ 1100000 → 0 ≤ b ∧ b ≤ 1100000 → 0 ≤ st.1 → st.1 + (itC t).length ≤ 1100000 → (gPh J f t a b st).2.2 = 0 → GVar t a b st (gPh J f t a b st)
  | 0, t, a, b, st, ht, hf, _, _, _, _, _ => by simp [itC] at hf
  | f + 1, t, a, b, st, ht, hf, ha, hb, h0, h1, hz => by
    have ih := gPh_var hJ f
    have hsz : (itC t).length = ((trs t.2).flatMap itC).length + 1 := by rw [trs_cells]; simp [itC]
    by_cases k0 : t.1.1 = 0
    · simp only [gPh, if_pos k0]
      refine ⟨hasV_cmp.2 ⟨vT b, by simp, hasV_vT.2 rfl⟩, fun n h2 h3 => absurd h3 (by show ¬ n < st.1; omega), fun n hn => ?_⟩
      obtain ⟨x, hx, hv⟩ := hasV_cmp.1 hn
      simp only [List.mem_cons, List.not_mem_nil, or_false] at hx
      rcases hx with rfl | rfl | rfl
      · exact .inl hv
      · exact .inr (.inl (hasV_vT.1 hv))
      · exact .inr (.inr (.inl (hasV_vT.1 hv)))
    by_cases k1 : t.1.1 = 1
    · simp only [gPh, if_neg k0, if_pos k1] at hz; exact absurd hz (flt_snd (by decide) st)
    by_cases k2 : t.1 = cComma ∨ t.1 = cThen
    · have hcnt : t.2.count = 2 := by rcases k2 with h | h <;> exact count_of ht (n := 2) h
      have q0 := kid_ok ht (i := 0) (by omega)
      have q1 := kid_ok ht (i := 1) (by omega)
      have m0 := kid_mem (t := t) (i := 0) (by omega)
      have m1 := kid_mem (t := t) (i := 1) (by omega)
      rw [two_kid hcnt] at hsz
      simp only [List.flatMap_cons, List.flatMap_nil, List.length_append, List.length_nil] at hsz
      simp only [gPh, if_neg k0, if_neg k1, if_pos k2] at hz ⊢
      have g0 := gPh_ok hJ f (kidG t 0) a st.1 (st.1 + 1, st.2) q0.1 (by omega) ha ⟨h0, by omega⟩ (by show 0 ≤ st.1 + 1; omega) (by show st.1 + 1 + _ ≤ _; omega)
      have u0 := g0.up; have w0 := g0.few
      simp only at u0 w0
      have v1 := ih (kidG t 1) st.1 b (gPh J f (kidG t 0) a st.1 (st.1 + 1, st.2)).2 q1.1 (by omega) ⟨h0, by omega⟩ hb (by omega) (by omega) hz
      have v0 := ih (kidG t 0) a st.1 (st.1 + 1, st.2) q0.1 (by omega) ha ⟨h0, by omega⟩ (by show 0 ≤ st.1 + 1; omega) (by show st.1 + 1 + _ ≤ _; omega) (gPh_st hz)
      have g1 := gPh_ok hJ f (kidG t 1) st.1 b (gPh J f (kidG t 0) a st.1 (st.1 + 1, st.2)).2 q1.1 (by omega) ⟨h0, by omega⟩ hb (by omega) (by omega)
      have u1 := g1.up
      obtain ⟨A, eA⟩ : ∃ A, A = gPh J f (kidG t 0) a st.1 (st.1 + 1, st.2) := ⟨_, rfl⟩
      rw [← eA] at v0 v1 u0 u1 ⊢
      obtain ⟨B, eB⟩ : ∃ B, B = gPh J f (kidG t 1) st.1 b A.2 := ⟨_, rfl⟩
      rw [← eB] at v1 ⊢
      rw [← eB] at u1
      refine ⟨hasV_cmp.2 ⟨B.1, by simp, v1.last⟩, fun n h2 h3 => ?_, fun n hn => ?_⟩
      · by_cases e : n = st.1
        · exact hasV_cmp.2 ⟨A.1, by simp, by rw [e]; exact v0.last⟩
        · by_cases e2 : n < A.2.1
          · exact hasV_cmp.2 ⟨A.1, by simp, v0.all n (by show st.1 + 1 ≤ n; omega) e2⟩
          · exact hasV_cmp.2 ⟨B.1, by simp, v1.all n (by omega) h3⟩
      · obtain ⟨x, hx, hv⟩ := hasV_cmp.1 hn
        rcases mem2 hx with rfl | rfl
        · rcases v0.none n hv with h | h | h | h
          · exact .inl (hasV_kid m0 h)
          · exact .inr (.inl h)
          · exact .inr (.inr (.inr ⟨by omega, by show n < B.2.1; omega⟩))
          · simp only at h; exact .inr (.inr (.inr ⟨by omega, by show n < B.2.1; omega⟩))
        · rcases v1.none n hv with h | h | h | h
          · exact .inl (hasV_kid m1 h)
          · exact .inr (.inr (.inr ⟨by omega, by show n < B.2.1; omega⟩))
          · exact .inr (.inr (.inl h))
          · exact .inr (.inr (.inr ⟨by omega, h.2⟩))
    by_cases k3 : t.1 = cOr
    · have hcnt : t.2.count = 2 := count_of ht (n := 2) k3
      have q0 := kid_ok ht (i := 0) (by omega)
      have q1 := kid_ok ht (i := 1) (by omega)
      have m0 := kid_mem (t := t) (i := 0) (by omega)
      have m1 := kid_mem (t := t) (i := 1) (by omega)
      rw [two_kid hcnt] at hsz
      simp only [List.flatMap_cons, List.flatMap_nil, List.length_append, List.length_nil] at hsz
      simp only [gPh, if_neg k0, if_neg k1, if_neg k2, if_pos k3] at hz ⊢
      have g0 := gPh_ok hJ f (kidG t 0) a b st q0.1 (by omega) ha hb h0 (by omega)
      have u0 := g0.up; have w0 := g0.few
      have v1 := ih (kidG t 1) a b (gPh J f (kidG t 0) a b st).2 q1.1 (by omega) ha hb (by omega) (by omega) hz
      have v0 := ih (kidG t 0) a b st q0.1 (by omega) ha hb h0 (by omega) (gPh_st hz)
      have g1 := gPh_ok hJ f (kidG t 1) a b (gPh J f (kidG t 0) a b st).2 q1.1 (by omega) ha hb (by omega) (by omega)
      have u1 := g1.up
      obtain ⟨A, eA⟩ : ∃ A, A = gPh J f (kidG t 0) a b st := ⟨_, rfl⟩
      rw [← eA] at v0 v1 u0 u1 ⊢
      obtain ⟨B, eB⟩ : ∃ B, B = gPh J f (kidG t 1) a b A.2 := ⟨_, rfl⟩
      rw [← eB] at v1 ⊢
      rw [← eB] at u1
      refine ⟨hasV_cmp.2 ⟨B.1, by simp, v1.last⟩, fun n h2 h3 => ?_, fun n hn => ?_⟩
      · by_cases e2 : n < A.2.1
        · exact hasV_cmp.2 ⟨A.1, by simp, v0.all n h2 e2⟩
        · exact hasV_cmp.2 ⟨B.1, by simp, v1.all n (by omega) h3⟩
      · obtain ⟨x, hx, hv⟩ := hasV_cmp.1 hn
        rcases mem2 hx with rfl | rfl
        · rcases v0.none n hv with h | h | h | h
          · exact .inl (hasV_kid m0 h)
          · exact .inr (.inl h)
          · exact .inr (.inr (.inl h))
          · exact .inr (.inr (.inr ⟨by omega, by show n < B.2.1; omega⟩))
        · rcases v1.none n hv with h | h | h | h
          · exact .inl (hasV_kid m1 h)
          · exact .inr (.inl h)
          · exact .inr (.inr (.inl h))
          · exact .inr (.inr (.inr ⟨by omega, h.2⟩))
    by_cases k4 : t.1 = cNot
    · have hcnt : t.2.count = 1 := count_of ht (n := 1) k4
      have q0 := kid_ok ht (i := 0) (by omega)
      have m0 := kid_mem (t := t) (i := 0) (by omega)
      simp only [gPh, if_neg k0, if_neg k1, if_neg k2, if_neg k3, if_pos k4] at hz ⊢
      have v0 := ih (kidG t 0) a st.1 (st.1 + 1, st.2) q0.1 (by omega) ha ⟨h0, by omega⟩ (by show 0 ≤ st.1 + 1; omega) (by show st.1 + 1 + _ ≤ _; omega) hz
      have g0 := gPh_ok hJ f (kidG t 0) a st.1 (st.1 + 1, st.2) q0.1 (by omega) ha ⟨h0, by omega⟩ (by show 0 ≤ st.1 + 1; omega) (by show st.1 + 1 + _ ≤ _; omega)
      have u0 := g0.up
      simp only at u0
      obtain ⟨A, eA⟩ : ∃ A, A = gPh J f (kidG t 0) a st.1 (st.1 + 1, st.2) := ⟨_, rfl⟩
      rw [← eA] at v0 u0 ⊢
      have inA : ∀ n, HasV n (itC A.1) → HasV n (itC (cmpT [44] [cmpT [92, 43] [A.1], eqV a b])) := fun n h => hasV_cmp.2 ⟨cmpT [92, 43] [A.1], by simp, hasV_cmp.2 ⟨A.1, by simp, h⟩⟩
      refine ⟨hasV_cmp.2 ⟨eqV a b, by simp, hasV_eq.2 (.inr rfl)⟩, fun n h2 h3 => ?_, fun n hn => ?_⟩
      · by_cases e : n = st.1
        · exact inA n (by rw [e]; exact v0.last)
        · exact inA n (v0.all n (by show st.1 + 1 ≤ n; omega) h3)
      · obtain ⟨x, hx, hv⟩ := hasV_cmp.1 hn
        rcases mem2 hx with rfl | rfl
        · obtain ⟨y, hy, hv⟩ := hasV_cmp.1 hv
          have ey : y = A.1 := by simpa using hy
          rw [ey] at hv
          rcases v0.none n hv with h | h | h | h
          · exact .inl (hasV_kid m0 h)
          · exact .inr (.inl h)
          · exact .inr (.inr (.inr ⟨by omega, by show n < A.2.1; omega⟩))
          · simp only at h; exact .inr (.inr (.inr ⟨by omega, h.2⟩))
        · rcases hasV_eq.1 hv with h | h
          · exact .inr (.inl h)
          · exact .inr (.inr (.inl h))
    by_cases k5 : t.1 = cCut
    · simp only [gPh, if_neg k0, if_neg k1, if_neg k2, if_neg k3, if_neg k4, if_pos k5]
      refine ⟨hasV_cmp.2 ⟨eqV a b, by simp, hasV_eq.2 (.inr rfl)⟩, fun n h2 h3 => absurd h3 (by show ¬ n < st.1; omega), fun n hn => ?_⟩
      obtain ⟨x, hx, hv⟩ := hasV_cmp.1 hn
      rcases mem2 hx with rfl | rfl
      · exact .inl hv
      · rcases hasV_eq.1 hv with h | h
        · exact .inr (.inl h)
        · exact .inr (.inr (.inl h))
    by_cases k6 : t.1 = cCurly
    · have hcnt : t.2.count = 1 := count_of ht (n := 1) k6
      have m0 := kid_mem (t := t) (i := 0) (by omega)
      simp only [gPh, if_neg k0, if_neg k1, if_neg k2, if_neg k3, if_neg k4, if_neg k5, if_pos k6]
      refine ⟨hasV_cmp.2 ⟨eqV a b, by simp, hasV_eq.2 (.inr rfl)⟩, fun n h2 h3 => absurd h3 (by show ¬ n < st.1; omega), fun n hn => ?_⟩
      obtain ⟨x, hx, hv⟩ := hasV_cmp.1 hn
      rcases mem2 hx with rfl | rfl
      · exact .inl (hasV_kid m0 hv)
      · rcases hasV_eq.1 hv with h | h
        · exact .inr (.inl h)
        · exact .inr (.inr (.inl h))
    by_cases k7 : t.1 = nilC ∨ t.1 = dot
    · simp only [gPh, if_neg k0, if_neg k1, if_neg k2, if_neg k3, if_neg k4, if_neg k5, if_neg k6, if_pos k7] at hz ⊢; exact gTer_var ht hz
    · simp only [gPh, if_neg k0, if_neg k1, if_neg k2, if_neg k3, if_neg k4, if_neg k5, if_neg k6, if_neg k7] at hz ⊢; exact gMore_var hz
end Go.Proofs.YtbnmmcegjlmdmaaGreatDoor

namespace Go.Proofs.YtbnmmcegjlmdmaaGreatDoor
open Go Go.RowKit
set_option linter.unusedVariables false
end Go.Proofs.YtbnmmcegjlmdmaaGreatDoor

namespace Go.Proofs.YtbnmmcegjlmdmaaGreatDoor
open Go Go.RowKit
set_option linter.unusedVariables false
end Go.Proofs.YtbnmmcegjlmdmaaGreatDoor

