/- Texts of OrL3, OrZ7, OrL4, OrL5, LawOrT. Own work of the verifier. -/
import Derived.Test.YtdmmchoicngblaaGreatDoorUqav
import Derived.Test.YtdmmchoicngblaaGreatDoorUqax
namespace Go.Proofs.YtdmmchoicngblaaGreatDoor
set_option linter.unusedVariables false
set_option linter.unusedSimpArgs false
section
open Go
theorem tr_from {t : Tr} (h : t.fo.ok) : validFrom 1 (itC t) = true := okV_cells h
theorem tr_valid {t : Tr} (h : t.fo.ok) (hl : (itC t).length ≤ 2000) : validB (itC t) = true := by
 simp only [validB, Bool.and_eq_true, decide_eq_true_eq]; exact ⟨hl, tr_from h⟩
theorem tr_byte {t : Tr} (h : t.fo.ok) : ∀ c ∈ itC t, Byte c.2.2 := fun c hc => okB_cells t.fo h c (by simpa [Tr.fo, Fo.cells, itC] using hc)
theorem cmp_eq {s t : Tr} (hs : s.fo.ok) (ht : t.fo.ok) : cmpC (itC s) (itC t) = 0 ↔ itC s = itC t :=
 ⟨fun h => cmpC_same _ _ 1 (tr_from hs) (tr_from ht) (tr_byte hs) (tr_byte ht) h, fun h => by rw [h]; exact cmpC_self _⟩
theorem cmp_tr {s t u : Tr} (hs : s.fo.ok) (ht : t.fo.ok) (hu : u.fo.ok) (h1 : cmpC (itC s) (itC t) ≤ 0) (h2 : cmpC (itC t) (itC u) ≤ 0) : cmpC (itC s) (itC u) ≤ 0 :=
 cmpC_trans _ _ _ 1 (tr_from hs) (tr_from ht) (tr_from hu) (tr_byte hs) (tr_byte ht) (tr_byte hu) h1 h2
theorem itC_injO {s t : Tr} (hs : s.fo.ok) (ht : t.fo.ok) (h : itC s = itC t) : s = t := by
 have h2 : eqT (s, t) = true := by
  rw [eqT_cells (x := (s, t)) hs ht, decide_eq_true_eq]; exact h
 exact (eqT_iff (s, t)).1 h2
theorem fI_iff (s t : Tr) : fI s t = true ↔ s = t := eqT_iff (s, t)
theorem splitF_list : ∀ (its : List (Cel × Fo)) (c : Cel) (k : Fo), listT its = .node c k .nil → splitF c k = (its, (nilC, .nil))
 | [], c, k, h => by
   simp only [listT, Fo.node.injEq] at h; obtain ⟨rfl, rfl, _⟩ := h; exact splitF_other _ _ (by decide)
 | x :: r, c, k, h => by
   simp only [listT, Fo.node.injEq] at h; obtain ⟨rfl, rfl, _⟩ := h; obtain ⟨c2, k2, e⟩ := listT_node r; rw [e, splitF_dot, splitF_list r c2 k2 e]
theorem listT_ls (its : List (Cel × Fo)) : (listT its).cells = lsC (its.map itC) ++ [nilC] := listT_cells its
theorem visits_dot (ks : List Int) (x : List Cel) : visits ks (dot :: x) = visits ks x := rfl
theorem visits_ls : ∀ (css : List (List Cel)) (ks : List Int), visits ks (lsC css ++ [nilC]) = visits ks css.flatten
 | [], ks => rfl
 | c :: r, ks => by
   have : lsC (c :: r) ++ [nilC] = dot :: (c ++ (lsC r ++ [nilC])) := by simp [lsC]
   rw [this, visits_dot, visits_append, visits_ls r, List.flatten_cons, visits_append]
theorem visits_inO : ∀ (cs : List Cel) (ks : List Int), (∀ c ∈ cs, c.1 = 0 → c.2.1 ∈ ks) → visits ks cs = ks
 | [], ks, _ => rfl
 | c :: r, ks, h => by
   have e : visitL ks c = ks := by
    unfold visitL
    split
    ·rename_i h0
     rw [putV, if_pos (h c (List.mem_cons_self ..) h0)]
    ·rfl
   rw [visits_cons, e]
   exact visits_inO r ks fun x hx => h x (List.mem_cons_of_mem _ hx)
theorem itsF_flat : ∀ its : List (Cel × Fo), (itsF its).cells = (its.map itC).flatten
 | [] => rfl
 | x :: r => by simp [itsF, Fo.cells, itsF_flat r, itC]
theorem itC_mp (f : Cel → Cel) (t : Tr) : itC (mpT f t) = (itC t).map f := by simp [itC, mpT, Fo.cells_map]
structure Tri (A B C : List Cel) (ta tb tc : Tr) (m : Nat) : Prop where
 oka : ta.fo.ok
 okb : tb.fo.ok
 okc : tc.fo.ok
 val : validB (lsC [A, B, C] ++ [nilC]) = true
 ren : renCells (lsC [A, B, C] ++ [nilC]) = dot :: (itC ta ++ (dot :: (itC tb ++ (dot :: (itC tc ++ [nilC])))))
 la : (itC ta).length = A.length
 lb : (itC tb).length = B.length
 lc : (itC tc).length = C.length
 val2 : validB (dot :: (itC ta ++ (dot :: (itC tb ++ (dot :: (itC tc ++ [nilC])))))) = true
 num : (visits [] (dot :: (itC ta ++ (dot :: (itC tb ++ (dot :: (itC tc ++ [nilC]))))))).length = m
 small : m ≤ 1000
 two : visits [] (itC ta ++ itC tb) = rngI (visits [] (itC ta ++ itC tb)).length
 four : visits [] (itsF [ta, tb, tc, ta]).cells = rngI m
theorem tri_of {sa sb sc : Tr} (ha : sa.fo.ok) (hb : sb.fo.ok) (hc : sc.fo.ok) (hl : (itC sa).length + (itC sb).length + (itC sc).length ≤ 900) : ∃ ta tb tc m, Tri (itC sa) (itC sb) (itC sc) ta tb tc m := by
 obtain ⟨L0, eL⟩ : ∃ L0, L0 = lsC [itC sa, itC sb, itC sc] ++ [nilC] := ⟨_, rfl⟩
 have e0 : (listT [sa, sb, sc]).cells = L0 := by rw [eL, listT_ls]; rfl
 have hlen : L0.length ≤ 904 := by rw [eL]; simp [lsC]; omega
 have hok0 : (listT [sa, sb, sc]).ok := listT_ok _ (fun x hx => by
  simp only [List.mem_cons, List.not_mem_nil, or_false] at hx
  rcases hx with rfl | rfl | rfl <;> assumption)
 obtain ⟨f, ef⟩ : ∃ f, f = renI (visits [] L0) := ⟨_, rfl⟩
 have hvl : (visits [] L0).length ≤ 904 := by have := visits_len L0 []; simp at this; omega
 have fd : f dot = dot := by rw [ef, renI, if_neg (by decide)]
 have fn : f nilC = nilC := by rw [ef, renI, if_neg (by decide)]
 have okm : ∀ t : Tr, t.fo.ok → (Tr.fo (mpT f t)).ok := fun t h => by
  have := Fo.ok_ren (L := visits [] L0) (by omega) t.fo h; rw [← ef] at this; exact this
 have emap : ∀ x : List Cel, x.map f = x.map (renI (visits [] L0)) := fun x => by rw [ef]
 have eren : renCells L0 = dot :: (itC (mpT f sa) ++ (dot :: (itC (mpT f sb) ++ (dot :: (itC (mpT f sc) ++ [nilC]))))) := by
  show L0.map (renI (visits [] L0)) = _
  rw [← emap, eL]
  simp [lsC, fd, fn, itC_mp]
 have hL1 : (listT [mpT f sa, mpT f sb, mpT f sc]).cells = renCells L0 := by rw [eren, listT_ls]; simp [lsC]
 have val_of : ∀ its : List (Cel × Fo), (∀ x ∈ its, (Fo.node x.1 x.2 .nil).ok) → (listT its).cells.length ≤ 2000 → validB (listT its).cells = true := fun its h hl => by
  obtain ⟨c, k, e⟩ := listT_node its; have ho := listT_ok its h; rw [e] at ho hl ⊢; have := tr_valid (t := (c, k)) ho (by simpa [itC, Fo.cells] using hl)
  simpa [itC, Fo.cells] using this
 have hnum : visits [] (renCells L0) = rngI (visits [] L0).length := ren_num0 L0
 have hv1 : visits [] (renCells L0) = visits [] (itC (mpT f sa) ++ itC (mpT f sb) ++ itC (mpT f sc)) := by
  rw [← hL1, listT_ls, visits_ls]; simp
 refine ⟨mpT f sa, mpT f sb, mpT f sc, (visits [] L0).length, okm _ ha, okm _ hb, okm _ hc, ?_, by rw [← eL]; exact eren, by rw [itC_mp, List.length_map], by rw [itC_mp, List.length_map], by rw [itC_mp, List.length_map], ?_, ?_, by omega, ?_, ?_⟩
 ·rw [← eL, ← e0]
  exact val_of _ (fun x hx => by
   simp only [List.mem_cons, List.not_mem_nil, or_false] at hx
   rcases hx with rfl | rfl | rfl <;> assumption) (by rw [e0]; omega)
 ·rw [← eren, ← hL1]
  refine val_of _ (fun x hx => ?_) (by rw [hL1]; simp [renCells]; omega); simp only [List.mem_cons, List.not_mem_nil, or_false] at hx
  rcases hx with rfl | rfl | rfl
  ·exact okm _ ha
  ·exact okm _ hb
  ·exact okm _ hc
 ·rw [← eren, hnum, rngI_len]
 ·refine num_take (ys := itC (mpT f sc)) (m := (visits [] L0).length) ?_
  rw [← hv1, hnum]
 ·rw [itsF_flat]
  have : (([mpT f sa, mpT f sb, mpT f sc, mpT f sa] : List Tr).map itC).flatten = (itC (mpT f sa) ++ itC (mpT f sb) ++ itC (mpT f sc)) ++ itC (mpT f sa) := by simp
  rw [this, visits_append, visits_inO, ← hv1, hnum]
  intro c hc h0
  exact visits_memW _ _ c (by simp [hc]) h0
def fnd (X : List Cel) (l : List (List Cel)) : Nat := l.countP fun y => decide (y = X)
def oth (Y Z : List Cel) (l : List (List Cel)) : Nat := (if decide (Y ∈ l) = true then 1 else 0) + (if decide (Z ∈ l) = true then 2 else 0)
theorem fnd_snoc (X : List Cel) (l : List (List Cel)) (x : List Cel) : fnd X (l ++ [x]) = fnd X l + if decide (x = X) = true then 1 else 0 := by simp [fnd, List.countP_append, List.countP_cons]
theorem oth_le (Y Z : List Cel) (l : List (List Cel)) : oth Y Z l ≤ 3 := by unfold oth; split <;> split <;> omega
def othS (y z : Bool) (o : Nat) : Nat := (if z = true ∧ (if y = true ∧ o % 2 = 0 then o + 1 else o) < 2 then (if y = true ∧ o % 2 = 0 then o + 1 else o) + 2 else (if y = true ∧ o % 2 = 0 then o + 1 else o))
theorem oth_bool (a b p q : Bool) : ((if (a || p) = true then 1 else 0) + (if (b || q) = true then 2 else 0) : Nat) = othS p q ((if a = true then 1 else 0) + (if b = true then 2 else 0)) := by
 cases a <;> cases b <;> cases p <;> cases q <;> rfl
theorem oth_mem (Y : List Cel) (l : List (List Cel)) (x : List Cel) : decide (Y ∈ l ++ [x]) = (decide (Y ∈ l) || decide (x = Y)) := by
 rw [Bool.eq_iff_iff]; simp only [decide_eq_true_eq, Bool.or_eq_true, List.mem_append, List.mem_singleton, eq_comm (a := Y) (b := x)]
theorem oth_snoc (Y Z : List Cel) (l : List (List Cel)) (x : List Cel) : oth Y Z (l ++ [x]) = othS (decide (x = Y)) (decide (x = Z)) (oth Y Z l) := by
 unfold oth
 rw [oth_mem, oth_mem, oth_bool]
structure Srt (ta tb tc : Tr) (its' : List (Cel × Fo)) : Prop where
 len : its'.length = 4
 mem : ∀ x ∈ its', x = ta ∨ x = tb ∨ x = tc
 asc : ∀ i (h : i + 1 < its'.length), cmpC (itC its'[i]) (itC its'[i + 1]) ≤ 0
 two : 2 ≤ fnd (itC ta) (its'.map itC)
 three : oth (itC tb) (itC tc) (its'.map itC) = 3
 pos : 0 < (compB fI its').length
 few : (compB fI its').length ≤ 3
 mem1 : ∀ x ∈ compB fI its', x = ta ∨ x = tb ∨ x = tc
 asc1 : ∀ i (h : i + 1 < (compB fI its').length), cmpC (itC (compB fI its')[i]) (itC (compB fI its')[i + 1]) < 0
theorem srt_of {ta tb tc : Tr} {its' : List (Cel × Fo)} {m : Nat} (oka : ta.fo.ok) (okb : tb.fo.ok) (okc : tc.fo.ok) (h : OrdP [ta, tb, tc, ta] its') (hn : visits [] (itsF [ta, tb, tc, ta]).cells = rngI m) : Srt ta tb tc its' := by
 obtain ⟨hp, hs⟩ := h.num hn
 have hm : ∀ x ∈ its', x = ta ∨ x = tb ∨ x = tc := fun x hx => by
  have := hp.subset hx; simp only [List.mem_cons, List.not_mem_nil, or_false] at this
  rcases this with h | h | h | h <;> simp [h]
 have hok : ∀ x ∈ its', (Tr.fo x).ok := fun x hx => by
  rcases hm x hx with e | e | e <;> rw [e] <;> assumption
 have hl : its'.length = 4 := hp.length_eq; have hpm : (its'.map itC).Perm [itC ta, itC tb, itC tc, itC ta] := hp.map itC; have hsub := compB_sub fI its'
 have hpw : (compB fI its').Pairwise (fun a b => (a ∈ its' ∧ b ∈ its' ∧ cmpC (itC a) (itC b) ≤ 0) ∧ a ≠ b) := by
  refine compB_pw (f := fI) (le := fun a b => a ∈ its' ∧ b ∈ its' ∧ cmpC (itC a) (itC b) ≤ 0) (fun x p h => (fI_iff x p).1 h) (fun x => (fI_iff x x).2 rfl) (fun x y h1 h2 => ?_) its' (hs.imp_of_mem fun ha hb hab => ⟨ha, hb, hab⟩); refine itC_injO (hok x h1.1) (hok y h1.2.1) ((cmp_eq (hok x h1.1) (hok y h1.2.1)).1 ?_); have h3 := cmpC_swap (itC x) (itC y); have h4 := h1.2.2; have h5 := h2.2.2
  omega
 refine ⟨hl, hm, fun i h => ?_, ?_, ?_, compB_pos _ _ (by omega), ?_, fun x hx => hm x (hsub.subset hx), fun i h => ?_⟩
 ·exact (List.pairwise_iff_getElem.1 hs) i (i + 1) (by omega) h (by omega)
 ·unfold fnd
  rw [hpm.countP_eq]
  simp [List.countP_cons]
  omega
 ·unfold oth
  rw [if_pos (decide_eq_true (hpm.mem_iff.2 (by simp))), if_pos (decide_eq_true (hpm.mem_iff.2 (by simp)))]
 ·rcases Nat.lt_or_ge 3 (compB fI its').length with h4 | h4
  ·have e := hsub.eq_of_length_le (by omega)
   rw [e] at hpw
   have hnd : its'.Nodup := hpw.imp fun h => h.2
   have := hp.nodup_iff.1 hnd
   simp at this
  ·exact h4
 ·obtain ⟨⟨h1, h2, h3⟩, h4⟩ := (List.pairwise_iff_getElem.1 hpw) i (i + 1) (by omega) h (by omega)
  rcases Int.lt_or_eq_of_le h3 with h5 | h5
  ·exact h5
  ·exact absurd (itC_injO (hok _ h1) (hok _ h2) ((cmp_eq (hok _ h1) (hok _ h2)).1 h5)) h4
end
section
open Go Go.RowKit
def nSt : List Int := [115, 111, 114, 116]
theorem tab_st : buTab (strOfNums nSt, ((2 : Nat) : Int)) = some 94 := buTab_at 39 (by decide)
def XS (n : Int) (its : List (Cel × Fo)) : Value → Value → Value → World → Prop := fun x0 x1 x2 W => ∃ its' g t x, OrdP its its' ∧ x0 = .slice (some ⟨g, 0, none⟩) 1 1 ∧ x1 = .nilIface ∧ x2 = .slice none 0 0 ∧ W.cell? ⟨g, 0, none⟩ = some (.iface 82 (.int .i64 n)) ∧ W.cell? ⟨g, 1, none⟩ = some (.iface t x) ∧ FoIn W 0 (listT (compB fI its')) [.iface t x]
def YS (n : Int) (its : List (Cel × Fo)) : Value → Value → Value → Value → World → Prop := fun v0 v1 v2 v3 W => ∃ its', OrdP its its' ∧ YL [[(0, n, [])]] [(listT (compB fI its')).cells] v0 v1 v2 v3 W
set_option maxHeartbeats 1000000 in
theorem bu_st {w : World} {a a2 : Addr} {p0 : Option Addr} {n0 c0 : Nat} (H : BuW w a a2 p0 n0 c0) (pn : Option Addr) (cn : Nat) (pa : Option Addr) (ca : Nat) (n fr : Int) (A : Tr) (its : List (Cel × Fo)) (hn0 : 0 ≤ n) (hn1 : n ≤ 1000000) (hf0 : 0 ≤ fr) (hf1 : fr ≤ 1000000) (hA : AB2 w pn nSt pa A (vrT n))
  (hl : A.2.cells.length ≤ 3900) (hsp : splitF A.1 A.2 = (its, (nilC, .nil))) (h0 : 0 < its.length) (h12 : its.length ≤ 12) (hsl : (itsF its).cells.length ≤ 3900) (hoks : ∀ x ∈ its, (Fo.node x.1 x.2 .nil).ok) (hls : ∀ its' : List (Cel × Fo), its'.Perm its → (listT (compB fI its')).cells.length ≤ 2000) :
  Calls Tryz.prog 13 #[.slice p0 n0 c0, .slice pn 4 cn, .slice pa 2 ca, .int .i64 fr] w fun e w' => ∃ its', OrdP its its' ∧ BuOk w 0 [[(0, n, [])]] [(listT (compB fI its')).cells] e w' := by
 have hvar : ∀ V : World, FoIn V 0 (vrT n).fo [.iface 82 (.int .i64 n)] := fun V => ⟨_, [], rfl, .inl ⟨rfl, rfl⟩, rfl⟩
 have htr : ∀ its', OrdP its its' → ∃ B : Tr, B.fo = listT (compB fI its') ∧ B.cs = (listT (compB fI its')).cells ∧ smallT B := fun its' h => listT_tr (fun x hx => hoks x (h.1.subset ((compB_sub _ _).subset hx))) (hls its' h.1)
 refine (builtin_by 94 p0 n0 c0 pn nSt 4 cn pa 2 ca [A, vrT n] fr 0 (XS n its) (YS n its) w rfl (by decide) hA.nm rfl (by decide) hA.ok hA.ar hf0 hf1 tab_st H.ops ?_ ?_ ?_ (fun v0 v1 v2 v3 W T a b c d ⟨its', h1, h2⟩ hT => ⟨its', h1, YL.set v0 v1 v2 v3 W T a b c d h2 hT⟩)).mono fun e w' ⟨v0, v1, v2, v3, he, ⟨its', h1, h2⟩, hb⟩ => ⟨its', h1, YL.out ⟨v0, v1, v2, v3, he, h2, hb⟩⟩
 ·intro W b p c hW hM hT
  obtain ⟨g, va, vb, rfl, h2, hfa, hfb⟩ := two_ofL hT; obtain rfl := var_of (n := n) hfb; have HW := H.below hW
  refine (run_holds 94 b 92 (strOfNums nSt) 2 buTab (.slice p0 n0 c0) (.slice (some ⟨g, 0, none⟩) 2 c) (.int .i64 fr) a a2 (fun p n' c V => n' = 1 ∧ c = 1 ∧ XS n its (.slice p n' c) .nilIface (.slice none 0 0) V) W hM ⟨by decide, by decide⟩ tab_st rfl rfl rfl HW.fl HW.by' (fun p n' c V h => ?_) (fun W => by kernel_rfl) (fun V hV => ?_)).mono fun e w' h => ?_
  ·obtain ⟨rfl, rfl, its', g, t, x, ho, hg, _, _, k0, k1, hf⟩ := h
   obtain ⟨B, e1, e2, hs⟩ := htr its' ho; rw [← e1] at hf; simp only [Value.slice.injEq, and_true] at hg; subst hg; exact beyond_pair (vrT n) B (vrT_small hn0 hn1) hs g _ _ _ _ V k0 k1 (hvar V) hf
  ·refine (sortC_any A.1 A.2 82 (.int .i64 n) va 0 g c n0 c0 p0 fr V (hA.ok 0 (by simp)).1 (hfa.below hV) hl (by rw [hsp]) (by rw [hsp]; exact h0) (by rw [hsp]; exact h12) (by rw [hsp]; exact hsl) (h2.below hV)).mono fun e w' h => ?_
   rw [hsp] at h; obtain ⟨its', g', t, x, hp, hs, rfl, hg, k0, k1, hf, hb⟩ := h; refine ⟨_, 1, 1, rfl, hb, fun U hU => ⟨rfl, rfl, its', g', t, x, ⟨hp, hs⟩, rfl, rfl, rfl, (World.cell?_of_block (a := ⟨g', 0, none⟩) (hU.2 g' hg (World.block_lt_of_cell? _ _ k0))).trans k0, (World.cell?_of_block (a := ⟨g', 1, none⟩) (hU.2 g' hg (World.block_lt_of_cell? _ _ k0))).trans k1, ?_⟩⟩; exact FoIn.imp (Nat.zero_le _) (fun b o hb hlt => World.cell?_of_block (a := ⟨b, o, none⟩) (hU.2 b hb hlt)) hU.1 _ _ hf
  ·obtain ⟨p, n', c, rfl, hb, rfl, rfl, hX⟩ := h
   exact ⟨_, _, _, rfl, rfl, rfl, rfl, hX, hb⟩
 ·rintro x0 x1 x2 W W' ⟨its', g, t, x, ho, rfl, rfl, rfl, k0, k1, hf⟩ hb
  exact ⟨its', g, t, x, ho, rfl, rfl, rfl, (hb.cell (World.block_lt_of_cell? _ _ k0)).trans k0, (hb.cell (World.block_lt_of_cell? _ _ k1)).trans k1, hf.below hb⟩
 ·rintro W x0 x1 x2 hW ⟨its', g, t, x, ho, rfl, rfl, rfl, k0, k1, hf⟩
  obtain ⟨B, e1, e2, hs⟩ := htr its' ho; rw [← e1] at hf
  refine (inCells_pairs (some ⟨g, 0, none⟩) 1 1 none 0 0 [(vrT n, B)] W rfl (by decide) (fun t h => ?_) (fun i hi => ?_)).mono fun e w' h => ?_
  ·obtain rfl : t = (vrT n, B) := by simpa using h
   exact ⟨(vrT_small hn0 hn1).1, by simp [vrT, Fo.cells], hs.1, by have := hs.2.1; show B.2.cells.length ≤ 10000; omega⟩
  ·obtain rfl : i = 0 := by simp at hi; exact hi
   exact ⟨g, _, _, rfl, k0, k1, hvar W, hf⟩
  ·obtain ⟨pl, cl, pr, cr, rfl, h1, h2, hb⟩ := h
   have er : rights [(vrT n, B)] = [(listT (compB fI its')).cells] := by rw [← e2]; rfl
   rw [er] at h2; exact ⟨_, _, _, _, rfl, rfl, rfl, rfl, rfl, ⟨its', ho, _, pl, cl, pr, cr, rfl, rfl, rfl, rfl, h1, h2⟩, hb⟩
theorem TmC.room {w : World} {q : Option Addr} {m c : Nat} {cs : List Cel} (h : TmC w q m c cs) : cs.length ≤ c ∧ c ≤ 9223372036854775807 := by rw [← h.1]; exact h.2.2
theorem byteC_get {cs : List Cel} (h : ∀ c ∈ cs, Byte c.2.2) : ∀ i, i < cs.length → Byte (cs.getD i Cel.none).2.2 := fun i hi => by
 rw [List.getD, List.getElem?_eq_getElem hi]; exact h _ (List.getElem_mem hi)
theorem tl_okO {t : Tr} (h : t.fo.ok) : tl (itC t) ≤ 100 * (itC t).length := by
 have h1 := ok_text t.fo h
 have : ∀ cs : List Cel, (∀ x ∈ cs, x.2.2.length ≤ 100) → tl cs ≤ 100 * cs.length := fun cs => by
  induction cs with
  | nil => intro _; simp [tl]
  | cons c r ih =>
    intro hx
    have := ih fun x hm => hx x (List.mem_cons_of_mem _ hm)
    have := hx c (List.mem_cons_self ..); simp only [tl, List.length_cons]; omega
 exact this _ fun x hx => h1 x (by simpa [Tr.fo, Fo.cells, itC] using hx)
theorem cmpT_any {s t : Tr} (hs : s.fo.ok) (ht : t.fo.ok) (ls : (itC s).length ≤ 2000) (lt : (itC t).length ≤ 2000) {W : World} {p q : Option Addr} {m c k d : Nat} (h1 : TmC W p m c (itC s)) (h2 : TmC W q k d (itC t)) :
  Calls Tryz.prog 7 #[.slice p m c, .slice q k d] W fun e w' => e = .returned (.tuple #[.int .i64 (cmpC (itC s) (itC t)), .int .i64 0]) ∧ Below W.heap.size W w' := by
 have h := implCmpC_any (itC s) (itC t) p q c d W (by omega) (by omega) h1.room h2.room (byteC_get (tr_byte hs)) (byteC_get (tr_byte ht)) h1.2.1 h2.2.1; rw [cmpR, if_pos ⟨tr_valid hs ls, tr_valid ht lt⟩, ← h1.1, ← h2.1] at h; exact h
theorem sameV_any {X Y : List Cel} (hx : X.length + tl X ≤ 1000000000) (hy : Y.length + tl Y ≤ 1000000000) {W : World} {p q : Option Addr} {m c k d : Nat} (h1 : TmC W p m c X) (h2 : TmC W q k d Y) :
  Calls Tryz.prog 8 #[.slice p m c, .slice q k d] W fun e w' => e = .returned (.bool (decide (X = Y))) ∧ Below W.heap.size W w' := by
 have h := sameT_any p q c d X Y W hx hy h1.2.1 h2.2.1; rw [← h1.1, ← h2.1] at h; exact h
theorem validV_any {X : List Cel} (hx : X.length ≤ 100000) {W : World} {p : Option Addr} {m c : Nat} (h1 : TmC W p m c X) :
  Calls Tryz.prog 6 #[.slice p m c] W fun e w' => e = .returned (.bool (validB X)) ∧ Below W.heap.size W w' := by
 have h := specValid_any p c X W (by omega) h1.2.1; rw [← h1.1] at h; exact h
theorem rows3 {w : World} {g m1 c1 m2 c2 m3 c3 : Nat} {q1 q2 q3 : Option Addr} {A B C : List Cel} (hr : w.heap[g]? = some (.cells #[.slice q1 m1 c1, .slice q2 m2 c2, .slice q3 m3 c3] 23)) (h1 : TmC w q1 m1 c1 A) (h2 : TmC w q2 m2 c2 B) (h3 : TmC w q3 m3 c3 C)
  (b1 : 0 < A.length ∧ A.length + tl A ≤ 100000) (b2 : 0 < B.length ∧ B.length + tl B ≤ 100000) (b3 : 0 < C.length ∧ C.length + tl C ≤ 100000) : RowsIn w g [A, B, C] := fun j hj => by
 rcases (by simp at hj; omega : j = 0 ∨ j = 1 ∨ j = 2) with rfl | rfl | rfl
 ·exact ⟨q1, c1, by rw [show (([A, B, C] : List (List Cel)).getD 0 []).length = m1 from h1.1.symm]; exact cell_of_row _ _ 0 _ _ _ hr, h1.2.1, b1⟩
 ·exact ⟨q2, c2, by rw [show (([A, B, C] : List (List Cel)).getD 1 []).length = m2 from h2.1.symm]; exact cell_of_row _ _ 1 _ _ _ hr, h2.2.1, b2⟩
 ·exact ⟨q3, c3, by rw [show (([A, B, C] : List (List Cel)).getD 2 []).length = m3 from h3.1.symm]; exact cell_of_row _ _ 2 _ _ _ hr, h3.2.1, b3⟩
theorem cap4 {w : World} {g m1 c1 m2 c2 m3 c3 : Nat} {q1 q2 q3 : Option Addr} {A B C : List Cel} (hr : w.heap[g]? = some (.cells #[.slice q1 m1 c1, .slice q2 m2 c2, .slice q3 m3 c3, .slice q1 m1 c1] 23)) (h1 : TmC w q1 m1 c1 A) (h2 : TmC w q2 m2 c2 B) (h3 : TmC w q3 m3 c3 C) : CapCC w (some ⟨g, 0, none⟩) [A, B, C, A] := fun _ => ⟨g, 0, rfl, fun j hj => by
 rcases (by simp at hj; omega : j = 0 ∨ j = 1 ∨ j = 2 ∨ j = 3) with rfl | rfl | rfl | rfl
 ·exact ⟨q1, c1, by rw [show (([A, B, C, A] : List (List Cel)).getD 0 []).length = m1 from h1.1.symm]; exact cell_of_row _ _ 0 _ _ _ hr, h1.2.1, h1.room⟩
 ·exact ⟨q2, c2, by rw [show (([A, B, C, A] : List (List Cel)).getD 1 []).length = m2 from h2.1.symm]; exact cell_of_row _ _ 1 _ _ _ hr, h2.2.1, h2.room⟩
 ·exact ⟨q3, c3, by rw [show (([A, B, C, A] : List (List Cel)).getD 2 []).length = m3 from h3.1.symm]; exact cell_of_row _ _ 2 _ _ _ hr, h3.2.1, h3.room⟩
 ·exact ⟨q1, c1, by rw [show (([A, B, C, A] : List (List Cel)).getD 3 []).length = m1 from h1.1.symm]; exact cell_of_row _ _ 3 _ _ _ hr, h1.2.1, h1.room⟩⟩
theorem part_any (w : World) (ty : TypeId) (b o cq m off : Nat) (L pre ds post : List Cel) (hoff : off = o + pre.length * 3) (hL : CIn w (some ⟨b, o, none⟩) L) (e : L = pre ++ (ds ++ post)) (hm : m = ds.length) (h0 : 0 < m) (hl : m ≤ 100000) :
  ∃ g cap w', (Builtin.append_ #[23, 23] ty #[.slice (some ⟨w.heap.size, 0, none⟩) 0 0, .slice (some ⟨b, off, none⟩) m cq]).run Tryz.prog (w.alloc (.cells #[] 55)) = .ok (.slice (some ⟨g, 0, none⟩) m cap) w' ∧ TmC w' (some ⟨g, 0, none⟩) m cap ds ∧ Below w.heap.size w w' := by
 subst hoff; have hb : Below w.heap.size w (w.alloc (.cells #[] 55)) := (Below.refl _ _).alloc (Nat.le_refl _) _
 have hrow : RowC w (w.alloc (.cells #[] 55)) (some ⟨w.heap.size, 0, none⟩) 0 0 [] := ⟨rfl, [], rfl, ⟨rfl, .inr ⟨w.heap.size, 0, #[], rfl, Nat.le_refl _, heap_alloc_new _ _, Nat.le_refl _, by decide, rfl, rfl⟩⟩, fun i hi => absurd hi (Nat.not_lt_zero _)⟩
 obtain ⟨g, cap, w', hr, hrow', hbw⟩ := run_app_row w _ ty (some ⟨w.heap.size, 0, none⟩) 0 0 [] (some ⟨b, o + pre.length * 3, none⟩) m cq ds hrow hb (CIn.partL hL e) hm h0 (by omega); rw [Nat.zero_add] at hr hrow'
 have hcap : m ≤ cap ∧ cap ≤ 9223372036854775807 := by
  obtain ⟨_, rs, _, hown, _⟩ := hrow'; exact rowcap hown
 exact ⟨g, cap, w', hr, ⟨hm, hrow'.cin hbw, hcap⟩, hbw⟩
theorem mkAB3 {w : World} {pn : Option Addr} {s : List Int} {rb m0 c0 m1 c1 m2 c2 : Nat} {q0 q1 q2 : Option Addr} {A B C : Tr} (hB : BIn w pn s) (hr : w.heap[rb]? = some (.cells #[.slice q0 m0 c0, .slice q1 m1 c1, .slice q2 m2 c2] 23)) (h0 : TmC w q0 m0 c0 A.cs) (h1 : TmC w q1 m1 c1 B.cs) (h2 : TmC w q2 m2 c2 C.cs)
  (o0 : A.fo.ok) (o1 : B.fo.ok) (o2 : C.fo.ok) (v0 : validB A.cs = true) (v1 : validB B.cs = true) (v2 : validB C.cs = true) : AB3 w pn s (some ⟨rb, 0, none⟩) A B C := by
 have l : ∀ {X : Tr}, validB X.cs = true → X.cs.length ≤ 2001 := fun h => by
  simp only [validB, Bool.and_eq_true, decide_eq_true_eq] at h
  omega
 refine ⟨hB, fun i hi => ?_, fun i hi => ?_⟩
 ·rcases (by simp at hi; omega : i = 0 ∨ i = 1 ∨ i = 2) with rfl | rfl | rfl
  ·exact ⟨rb, q0, c0, rfl, by show _ = some (Value.slice q0 A.cs.length c0); rw [← h0.1]; exact cell_of_row _ _ 0 _ _ _ hr, h0.2.1, by show A.cs.length ≤ c0; rw [← h0.1]; exact h0.2.2.1, h0.2.2.2⟩
  ·exact ⟨rb, q1, c1, rfl, by show _ = some (Value.slice q1 B.cs.length c1); rw [← h1.1]; exact cell_of_row _ _ 1 _ _ _ hr, h1.2.1, by show B.cs.length ≤ c1; rw [← h1.1]; exact h1.2.2.1, h1.2.2.2⟩
  ·exact ⟨rb, q2, c2, rfl, by show _ = some (Value.slice q2 C.cs.length c2); rw [← h2.1]; exact cell_of_row _ _ 2 _ _ _ hr, h2.2.1, by show C.cs.length ≤ c2; rw [← h2.1]; exact h2.2.2.1, h2.2.2.2⟩
 ·rcases (by simp at hi; omega : i = 0 ∨ i = 1 ∨ i = 2) with rfl | rfl | rfl
  ·exact ⟨o0, v0, l v0⟩
  ·exact ⟨o1, v1, l v1⟩
  ·exact ⟨o2, v2, l v2⟩
theorem itemsT_any (its : List (Cel × Fo)) (hok : ∀ x ∈ its, (Fo.node x.1 x.2 .nil).ok) (hl : (listT its).cells.length ≤ 2000) {W : World} {q : Option Addr} {m c : Nat} (h : TmC W q m c (listT its).cells) :
  Calls Tryz.prog 17 #[.slice q m c] W fun e w' => ∃ p cp, e = .returned (.tuple #[.slice p its.length cp, .int .i64 0]) ∧ CapCC w' p (its.map itC) ∧ Below W.heap.size W w' := by
 obtain ⟨cc, kk, e⟩ := listT_node its; have ho := listT_ok its hok; have hs := splitF_list its cc kk e; rw [e] at h ho hl
 have hcs : (Fo.node cc kk .nil).cells = cc :: kk.cells := by simp [Fo.cells]
 have hv : validB (cc :: kk.cells) = true := tr_valid (t := (cc, kk)) ho (by rw [hcs] at hl; exact hl); have hi := implItems_any (Fo.node cc kk .nil).cells q m c cc kk W ho hcs hl (by rw [hcs]; exact hv) h.1 h.2.2.1 h.2.2.2 h.2.1
 have hr : itemsR cc kk = (its.map itC, 0) := by rw [itemsR, hs]; rfl
 rw [hr] at hi
 refine hi.mono fun e w' hh => ?_
 obtain ⟨p, n, cp, rfl, ho, hb⟩ := hh
 have hn : n = its.length := by obtain ⟨ds, hd⟩ := ho; rw [hd.len, List.length_map]
 subst hn; exact ⟨p, cp, rfl, ho.cap, hb⟩
theorem makeT_any (its : List (Cel × Fo)) (hok : ∀ x ∈ its, (Fo.node x.1 x.2 .nil).ok) (hl : (listT its).cells.length ≤ 2000) {W : World} {g c n : Nat} (hn : n = its.length) (h : CapCC W (some ⟨g, 0, none⟩) (its.map itC)) :
  Calls Tryz.prog 16 #[.slice (some ⟨g, 0, none⟩) n c] W fun e w' => ∃ q m cq, e = .returned (.tuple #[.slice q m cq, .int .i64 0]) ∧ TmC w' q m cq (listT its).cells ∧ Below W.heap.size W w' := by
 have hlc := listT_ls its
 have hlen : (its.map itC).length + tll (its.map itC) ≤ 1048576 := by
  have h1 : ∀ l : List (Cel × Fo), (∀ x ∈ l, (Fo.node x.1 x.2 .nil).ok) → tll (l.map itC) ≤ 101 * (lsC (l.map itC)).length := fun l => by
   induction l with
   | nil => intro _; simp [tll]
   | cons x r ih =>
     intro hx
     have h2 := ih fun y hy => hx y (List.mem_cons_of_mem _ hy)
     have h3 := tl_okO (t := x) (hx x (List.mem_cons_self ..)); simp only [List.map_cons, tll, lsC, List.flatMap_cons, List.length_append, List.length_cons] at h2 ⊢
     omega
  have h2 := h1 its hok
  have h3 : its.length ≤ (lsC (its.map itC)).length := by
   have : ∀ l : List (Cel × Fo), l.length ≤ (lsC (l.map itC)).length := fun l => by
    induction l with
    | nil => simp
    | cons x r ih => simp only [List.map_cons, lsC, List.flatMap_cons, List.length_append, List.length_cons] at ih ⊢; omega
   exact this its
  rw [hlc] at hl
  simp at hl h2 h3 ⊢
  omega
 have hall : (its.map itC).all validB = true := by
  rw [List.all_eq_true]
  intro y hy
  obtain ⟨x, hx, rfl⟩ := List.mem_map.1 hy; refine tr_valid (t := x) (hok x hx) ?_
  have : ∀ l : List (Cel × Fo), x ∈ l → (itC x).length ≤ (lsC (l.map itC)).length := fun l => by
   induction l with
   | nil => intro h; simp at h
   | cons z r ih =>
     intro h
     simp only [List.map_cons, lsC, List.flatMap_cons, List.length_append, List.length_cons] at ih ⊢
     rcases List.mem_cons.1 h with rfl | h
     ·omega
     ·have := ih h; omega
  have h2 := this its hx; rw [hlc] at hl
  simp at hl h2 ⊢
  omega
 have hmk : mkR (its.map itC) = ((listT its).cells, 0) := by
  have hl2 : ¬ 2000 < (mkL (its.map itC)).length + 1 := by
   rw [hlc] at hl
   simp [lsC] at hl
   show ¬ 2000 < (List.flatMap _ _).length + 1
   simp
   omega
  have hl3 : ¬ 2000 < (its.map itC).length := by
   have : ∀ l : List (Cel × Fo), l.length ≤ (lsC (l.map itC)).length := fun l => by
    induction l with
    | nil => simp
    | cons x r ih => simp only [List.map_cons, lsC, List.flatMap_cons, List.length_append, List.length_cons] at ih ⊢; omega
   have h3 := this its; rw [hlc, List.length_append] at hl; rw [List.length_map]
   omega
  rw [mkR, if_neg (by rw [hall]; simp; simpa using hl3), if_neg hl2, hlc]; rfl
 have hm := implMakeC_any (its.map itC) (some ⟨g, 0, none⟩) n c W (by rw [hn, List.length_map]) hlen (fun i hi j hj => by
  have hi' : i < its.length := by simpa using hi
  have e : (its.map itC).getD i [] = itC its[i] := by rw [List.getD, List.getElem?_map, List.getElem?_eq_getElem hi']; rfl
  rw [e] at hj ⊢
  exact byteC_get (tr_byte (t := its[i]) (hok _ (List.getElem_mem hi'))) j hj) h
 rw [hmk] at hm
 exact hm.mono fun e w' hh => by
  obtain ⟨q, m, cq, rfl, ho, hb⟩ := hh; exact ⟨q, m, cq, rfl, ho.tmc, hb⟩
theorem lsLen (its : List (Cel × Fo)) : (listT its).cells.length = (its.map fun x => (itC x).length + 1).sum + 1 := by
 rw [listT_ls, List.length_append, List.length_singleton]
 congr 1
 induction its with
 | nil => rfl
 | cons x r ih =>
   simp only [List.map_cons, lsC, List.flatMap_cons, List.length_append, List.length_cons, List.sum_cons] at ih ⊢
   omega
theorem lsLen_perm {a b : List (Cel × Fo)} (h : a.Perm b) : (listT a).cells.length = (listT b).cells.length := by
 rw [lsLen, lsLen, (h.map _).sum_nat]
theorem lsLen_sub {a b : List (Cel × Fo)} (h : a.Sublist b) : (listT a).cells.length ≤ (listT b).cells.length := by
 rw [lsLen, lsLen]
 have : ∀ {a b : List (Cel × Fo)}, a.Sublist b → (a.map fun x => (itC x).length + 1).sum ≤ (b.map fun x => (itC x).length + 1).sum := fun h => by
  induction h with
  | slnil => exact Nat.le_refl _
  | cons x _ ih => simp only [List.map_cons, List.sum_cons]; omega
  | cons_cons x _ ih => simp only [List.map_cons, List.sum_cons]; omega
 have := this h
 omega
structure Four (ta tb tc LA : Tr) : Prop where
 cs : (listT [ta, tb, tc, ta]).cells = LA.cs
 ok : LA.fo.ok
 val : validB LA.cs = true
 spl : splitF LA.1 LA.2 = ([ta, tb, tc, ta], (nilC, .nil))
 len : LA.2.cells.length ≤ 3900
 oks : ∀ x ∈ ([ta, tb, tc, ta] : List (Cel × Fo)), (Fo.node x.1 x.2 .nil).ok
 sml : (listT [ta, tb, tc, ta]).cells.length ≤ 2000
 its : (itsF [ta, tb, tc, ta]).cells.length ≤ 3900
 prm : ∀ its' : List (Cel × Fo), its'.Perm [ta, tb, tc, ta] → (listT its').cells.length ≤ 2000 ∧ (listT (compB fI its')).cells.length ≤ 2000
theorem four_of {ta tb tc : Tr} (oka : ta.fo.ok) (okb : tb.fo.ok) (okc : tc.fo.ok) (hl : (itC ta).length + (itC tb).length + (itC tc).length ≤ 900) : ∃ LA, Four ta tb tc LA := by
 have hok : ∀ x ∈ ([ta, tb, tc, ta] : List (Cel × Fo)), (Fo.node x.1 x.2 .nil).ok := fun x hx => by
  simp only [List.mem_cons, List.not_mem_nil, or_false] at hx
  rcases hx with rfl | rfl | rfl | rfl <;> assumption
 have hlen : (listT [ta, tb, tc, ta]).cells.length ≤ 2000 := by
  rw [lsLen]; simp; omega
 obtain ⟨c, k, e⟩ := listT_node [ta, tb, tc, ta]
 have hcs : (Fo.node c k .nil).cells = c :: k.cells := by simp [Fo.cells]
 have ho := listT_ok _ hok; have hsp := splitF_list _ c k e
 have hp : ∀ its' : List (Cel × Fo), its'.Perm [ta, tb, tc, ta] → (listT its').cells.length ≤ 2000 ∧ (listT (compB fI its')).cells.length ≤ 2000 := fun its' h => by
  have h1 := lsLen_perm h; have h2 := lsLen_sub (compB_sub fI its'); exact ⟨by omega, by omega⟩
 have hits : (itsF [ta, tb, tc, ta]).cells.length ≤ 3900 := by
  rw [itsF_flat]; simp; omega
 have hl2 : (c :: k.cells).length ≤ 2000 := by rw [← hcs, ← e]; exact hlen
 refine ⟨(c, k), by rw [e, hcs]; rfl, by rw [e] at ho; exact ho, ?_, hsp, by simp at hl2; show k.cells.length ≤ 3900; omega, hok, hlen, hits, hp⟩; rw [e] at ho; exact tr_valid (t := (c, k)) ho hl2
def RowT (W : World) (g o n : Nat) (css : List (List Cel)) : Prop := ∀ i, i < n → ∃ q k c, W.cell? ⟨g, o + i, none⟩ = some (.slice q k c) ∧ TmC W q k c (css.getD i [])
theorem RowT.below {W W' : World} {g o n : Nat} {css : List (List Cel)} (h : RowT W g o n css) (hb : Below W.heap.size W W') : RowT W' g o n css := fun i hi => by
 obtain ⟨q, k, c, h1, h2⟩ := h i hi; exact ⟨q, k, c, (hb.cell (World.block_lt_of_cell? _ _ h1)).trans h1, h2.below hb⟩
theorem CapCC.rowT {W : World} {p : Option Addr} {n : Nat} {css : List (List Cel)} (h : CapCC W p css) (hn : n = css.length) (h0 : 0 < n) : ∃ g o, p = some ⟨g, o, none⟩ ∧ RowT W g o n css := by
 obtain ⟨b, o, rfl, hc⟩ := h (by omega); refine ⟨b, o, rfl, fun i hi => ?_⟩; obtain ⟨q, c, h1, h2, h3, h4⟩ := hc i (by omega); exact ⟨q, _, c, h1, rfl, h2, h3, h4⟩
theorem map_getD (its : List (Cel × Fo)) (i : Nat) (h : i < its.length) : (its.map itC).getD i [] = itC its[i] := by
 rw [List.getD, List.getElem?_map, List.getElem?_eq_getElem h]; rfl
theorem map_take (its : List (Cel × Fo)) (i : Nat) (h : i < its.length) : (its.map itC).take (i + 1) = (its.map itC).take i ++ [itC its[i]] := by
 rw [List.take_add_one, List.getElem?_map, List.getElem?_eq_getElem h]; rfl
def sufO (k : Nat) : Code → Code
 | .seq (.region n ops b) d => if n = k then .seq (.region n ops b) d else sufO k d
 | .seq _ d => sufO k d
 | c => c
noncomputable def tailO : Code := sufO 40 (Tryz.f3.body.getD .skip)
structure TailW (w0 w : World) (ta tb tc : Tr) (ia ib : List (Cel × Fo)) (gpa n1 kpa gpb n2 kpb gpc n3 kpc gI oI gJ oJ k1 : Nat) : Prop where
 low : Below w0.heap.size w0 w
 oka : ta.fo.ok
 okb : tb.fo.ok
 okc : tc.fo.ok
 len : (itC ta).length ≤ 900 ∧ (itC tb).length ≤ 900 ∧ (itC tc).length ≤ 900
 sa : Srt ta tb tc ia
 sb : Srt ta tb tc ib
 pa : TmC w (some ⟨gpa, 0, none⟩) n1 kpa (itC ta)
 pb : TmC w (some ⟨gpb, 0, none⟩) n2 kpb (itC tb)
 pc : TmC w (some ⟨gpc, 0, none⟩) n3 kpc (itC tc)
 ri : RowT w gI oI 4 (ia.map itC)
 rj : RowT w gJ oJ k1 ((compB fI ib).map itC)
 kj : k1 = (compB fI ib).length
theorem TailW.mem {w0 w : World} {ta tb tc : Tr} {ia ib : List (Cel × Fo)} {gpa n1 kpa gpb n2 kpb gpc n3 kpc gI oI gJ oJ k1 : Nat} (h : TailW w0 w ta tb tc ia ib gpa n1 kpa gpb n2 kpb gpc n3 kpc gI oI gJ oJ k1) (s : Tr) (hs : s = ta ∨ s = tb ∨ s = tc) : s.fo.ok ∧ (itC s).length ≤ 900 := by
 rcases hs with e | e | e
 ·rw [e]; exact ⟨h.oka, h.len.1⟩
 ·rw [e]; exact ⟨h.okb, h.len.2.1⟩
 ·rw [e]; exact ⟨h.okc, h.len.2.2⟩
theorem TailW.cmp {w0 w : World} {ta tb tc : Tr} {ia ib : List (Cel × Fo)} {gpa n1 kpa gpb n2 kpb gpc n3 kpc gI oI gJ oJ k1 : Nat} (h : TailW w0 w ta tb tc ia ib gpa n1 kpa gpb n2 kpb gpc n3 kpc gI oI gJ oJ k1) (s t : Tr) (hs : s = ta ∨ s = tb ∨ s = tc) (ht : t = ta ∨ t = tb ∨ t = tc) (v : Int) (hv : v = cmpC (itC s) (itC t))
  {W : World} {p q : Option Addr} {m c k d : Nat} (h1 : TmC W p m c (itC s)) (h2 : TmC W q k d (itC t)) : Calls Tryz.prog 7 #[.slice p m c, .slice q k d] W fun e w' => e = .returned (.tuple #[.int .i64 v, .int .i64 0]) ∧ Below W.heap.size W w' := by
 rw [hv]; exact cmpT_any (h.mem s hs).1 (h.mem t ht).1 (by have := (h.mem s hs).2; omega) (by have := (h.mem t ht).2; omega) h1 h2
theorem TailW.same {w0 w : World} {ta tb tc : Tr} {ia ib : List (Cel × Fo)} {gpa n1 kpa gpb n2 kpb gpc n3 kpc gI oI gJ oJ k1 : Nat} (h : TailW w0 w ta tb tc ia ib gpa n1 kpa gpb n2 kpb gpc n3 kpc gI oI gJ oJ k1) (s t : Tr) (hs : s = ta ∨ s = tb ∨ s = tc) (ht : t = ta ∨ t = tb ∨ t = tc) (v : Bool) (hv : v = decide (itC s = itC t))
  {W : World} {p q : Option Addr} {m c k d : Nat} (h1 : TmC W p m c (itC s)) (h2 : TmC W q k d (itC t)) : Calls Tryz.prog 8 #[.slice p m c, .slice q k d] W fun e w' => e = .returned (.bool v) ∧ Below W.heap.size W w' := by
 rw [hv]; have l1 := tl_okO (h.mem s hs).1; have l2 := tl_okO (h.mem t ht).1; exact sameV_any (by have := (h.mem s hs).2; omega) (by have := (h.mem t ht).2; omega) h1 h2
set_option maxRecDepth 1000000 in
set_option maxHeartbeats 16000000 in
theorem tailOr (w0 w : World) (ta tb tc : Tr) (ia ib : List (Cel × Fo)) (gpa n1 kpa gpb n2 kpb gpc n3 kpc gI oI gJ oJ k1 cpI cpJ : Nat) (h : TailW w0 w ta tb tc ia ib gpa n1 kpa gpb n2 kpb gpc n3 kpc gI oI gJ oJ k1)
  (c0v v1 v2 v6 v7 v8 v9 v10 v11 v12 v13 v14 v15 v16 v17 v18 v19 v20 v21 v22 v23 v24 v25 v27 v29 v31 v32 v33 v34 v35 v36 v37 v38 v39 v40 v41 v42 v43 v44 v45 v46 v47 v48 v49 v50 v51 v52 v53 v54 v55 v56 v57 v58 v59 v60 v61 v62 v63 v64 v65 v66 v67 v68 v69 v70 v71 v72 v73 v74 v75 v76 v77 v78 v79 v80 v81 v82 v83 v84 v85 v86 v87 v88 v89 v90 v91 v92 v93 v94 v95 v96 v97 v98 v99 v100 v101 v102 v103 v104 v105 v106 v107 v108 v109 v110 v111 v112 v113 v114 v115 v116 v117 v118 v119 v120 v121 v122 v123 v124 v125 v126 v127 v128 v129 v130 v131 v132 v133 v134 v135 v136 v137 v138 v139 v140 v141 v142 v143 v144 v145 v146 v147 v148 v149 v150 v151 v152 v153 v154 v155 v156 v157 v158 v159 v160 v161 v162 v163 v164 v165 v166 v167 v168 v169 v170 v171 v172 v173 v174 v175 v176 v177 v178 v179 v180 v181 v182 v183 v184 v185 v186 v187 v188 v189 v190 v191 v192 v193 v194 v195 v196 v197 v198 v199 v200 v201 v202 v203 v204 v205 v206 v207 v208 v209 v210 v211 v212 v213 v214 v215 v216 v217 v218 v219 v220 v221 v222 v223 v224 v225 v226 v227 v228 v229 v230 v231 v232 v233 v234 v235 v236 v237 v238 v239 v240 v241 v242 v243 v244 v245 v246 v247 v248 v249 v250 v251 v252 v253 v254 v255 v256 v257 v258 v259 v260 v261 v262 v263 v264 v265 v266 v267 v268 v269 v270 v271 v272 v273 v274 v275 v276 v277 v278 v279 v280 v281 v282 v283 v284 v285 v286 v287 v288 v289 v290 v291 v292 v293 v294 v295 v296 v297 v298 v299 v300 v301 v302 v303 v304 v305 v306 v307 v308 v309 v310 v311 v312 v313 v314 v315 v316 v317 v318 v319 v320 v321 v322 v323 v324 v325 v326 v327 v328 v329 v330 v331 v332 v333 v334 v335 v336 v337 v338 v339 v340 v341 v342 v343 v344 v345 v346 v347 v348 v349 v350 v351 v352 v353 v354 v355 v356 v357 v358 v359 v360 v361 v362 v363 v364 v365 v366 v367 v368 v369 v370 v371 v372 v373 v374 v375 v376 v377 v378 v379 v380 v381 v382 v383 v384 v385 v386 v387 v388 v389 v390 v391 v392 v393 v394 v395 v396 v397 v398 v399 v400 v401 v402 v403 v404 v405 v406 v407 v408 v409 v410 v411 v412 v413 v414 v415 v416 v417 v418 v419 v420 v421 : Value) :
  Code.wp Tryz.prog tailO (bodyPost Tryz.prog Tryz.f3 fun e w' => e = .returned (.bool true) ∧ Below w0.heap.size w0 w') ⟨#[c0v, v1, v2, .slice (some ⟨gpa, 0, none⟩) n1 kpa, .slice (some ⟨gpb, 0, none⟩) n2 kpb, .slice (some ⟨gpc, 0, none⟩) n3 kpc, v6, v7, v8, v9, v10, v11, v12, v13, v14, v15, v16, v17, v18, v19, v20, v21, v22, v23, v24, v25, .slice (some ⟨gI, oI, none⟩) 4 cpI, v27, .slice (some ⟨gJ, oJ, none⟩) k1 cpJ, v29, .int .i64 0, v31, v32, v33, v34, v35, v36, v37, v38, v39, v40, v41, v42, v43, v44, v45, v46, v47, v48, v49, v50, v51, v52, v53, v54, v55, v56, v57, v58, v59, v60, v61, v62, v63, v64, v65, v66, v67, v68, v69, v70, v71, v72, v73, v74, v75, v76, v77, v78, v79, v80, v81, v82, v83, v84, v85, v86, v87, v88, v89, v90, v91, v92, v93, v94, v95, v96, v97, v98, v99, v100, v101, v102, v103, v104, v105, v106, v107, v108, v109, v110, v111, v112, v113, v114, v115, v116, v117, v118, v119, v120, v121, v122, v123, v124, v125, v126, v127, v128, v129, v130, v131, v132, v133, v134, v135, v136, v137, v138, v139, v140, v141, v142, v143, v144, v145, v146, v147, v148, v149, v150, v151, v152, v153, v154, v155, v156, v157, v158, v159, v160, v161, v162, v163, v164, v165, v166, v167, v168, v169, v170, v171, v172, v173, v174, v175, v176, v177, v178, v179, v180, v181, v182, v183, v184, v185, v186, v187, v188, v189, v190, v191, v192, v193, v194, v195, v196, v197, v198, v199, v200, v201, v202, v203, v204, v205, v206, v207, v208, v209, v210, v211, v212, v213, v214, v215, v216, v217, v218, v219, v220, v221, v222, v223, v224, v225, v226, v227, v228, v229, v230, v231, v232, v233, v234, v235, v236, v237, v238, v239, v240, v241, v242, v243, v244, v245, v246, v247, v248, v249, v250, v251, v252, v253, v254, v255, v256, v257, v258, v259, v260, v261, v262, v263, v264, v265, v266, v267, v268, v269, v270, v271, v272, v273, v274, v275, v276, v277, v278, v279, v280, v281, v282, v283, v284, v285, v286, v287, v288, v289, v290, v291, v292, v293, v294, v295, v296, v297, v298, v299, v300, v301, v302, v303, v304, v305, v306, v307, v308, v309, v310, v311, v312, v313, v314, v315, v316, v317, v318, v319, v320, v321, v322, v323, v324, v325, v326, v327, v328, v329, v330, v331, v332, v333, v334, v335, v336, v337, v338, v339, v340, v341, v342, v343, v344, v345, v346, v347, v348, v349, v350, v351, v352, v353, v354, v355, v356, v357, v358, v359, v360, v361, v362, v363, v364, v365, v366, v367, v368, v369, v370, v371, v372, v373, v374, v375, v376, v377, v378, v379, v380, v381, v382, v383, v384, v385, v386, v387, v388, v389, v390, v391, v392, v393, v394, v395, v396, v397, v398, v399, v400, v401, v402, v403, v404, v405, v406, v407, v408, v409, v410, v411, v412, v413, v414, v415, v416, v417, v418, v419, v420, v421], []⟩ w := by
 have HW : Hid (TailW w0 w ta tb tc ia ib gpa n1 kpa gpb n2 kpb gpc n3 kpc gI oI gJ oJ k1) := h; clear h
 conv => arg 2; whnf
 go_wp2_with fail
 go_loopw [30, 31, 32] (fun f t i wr => ∃ j : Nat, j ≤ 4 ∧ i = .int .i64 j ∧ f = .int .i64 ((fnd (itC ta) ((ia.map itC).take j) : Nat) : Int) ∧ t = .int .i64 ((oth (itC tb) (itC tc) ((ia.map itC).take j) : Nat) : Int) ∧ Hid (Below w.heap.size w wr)) (fun _ _ i _ => 4 - (intOf i).toNat)
 case atStart => exact ⟨0, by decide, rfl, rfl, rfl, Below.refl _ _⟩
 case round =>
  obtain ⟨j, hj, rfl, rfl, rfl, HBR⟩ := hrel
  by_cases hlt : j < 4
  ·obtain ⟨q0, k0, c0, hc0, ht0⟩ := HW.out.ri j hlt
   have hjl : j < ia.length := by rw [HW.out.sa.len]; exact hlt
   rw [map_getD ia j hjl] at ht0
   obtain ⟨sj, esj⟩ : ∃ sj : Tr, sj = ia[j] := ⟨_, rfl⟩
   rw [← esj] at ht0
   have hmem : sj = ta ∨ sj = tb ∨ sj = tc := by rw [esj]; exact HW.out.sa.mem _ (List.getElem_mem hjl)
   obtain ⟨b1, eb1⟩ : ∃ b, b = decide (itC sj = itC ta) := ⟨_, rfl⟩
   obtain ⟨b2, eb2⟩ : ∃ b, b = decide (itC sj = itC tb) := ⟨_, rfl⟩
   obtain ⟨b3, eb3⟩ : ∃ b, b = decide (itC sj = itC tc) := ⟨_, rfl⟩
   obtain ⟨f, ef⟩ : ∃ f, f = fnd (itC ta) ((ia.map itC).take j) := ⟨_, rfl⟩
   obtain ⟨t, et⟩ : ∃ t, t = oth (itC tb) (itC tc) ((ia.map itC).take j) := ⟨_, rfl⟩
   have hf4 : f ≤ 4 := by rw [ef]; exact Nat.le_trans List.countP_le_length (by simp; omega)
   have ht3 : t ≤ 3 := by rw [et]; exact oth_le _ _ _
   have HF2 : fnd (itC ta) ((ia.map itC).take (j + 1)) = f + if b1 = true then 1 else 0 := by rw [map_take ia j hjl, fnd_snoc, ← ef, ← esj, ← eb1]
   have HT2 : oth (itC tb) (itC tc) ((ia.map itC).take (j + 1)) = othS b2 b3 t := by rw [map_take ia j hjl, oth_snoc, ← et, ← esj, ← eb2, ← eb3]
   have HNX : Hid (fnd (itC ta) ((ia.map itC).take (j + 1)) = (f + if b1 = true then 1 else 0) ∧ oth (itC tb) (itC tc) ((ia.map itC).take (j + 1)) = othS b2 b3 t) := ⟨HF2, HT2⟩
   have HS1 : Hid (∀ W, Below w.heap.size w W → Calls Tryz.prog 8 #[.slice q0 k0 c0, .slice (some ⟨gpa, 0, none⟩) n1 kpa] W fun e w' => e = .returned (.bool b1) ∧ Below W.heap.size W w') := fun W hW => HW.out.same sj ta hmem (.inl rfl) b1 eb1 (ht0.below hW) (HW.out.pa.below hW)
   have HS2 : Hid (∀ W, Below w.heap.size w W → Calls Tryz.prog 8 #[.slice q0 k0 c0, .slice (some ⟨gpb, 0, none⟩) n2 kpb] W fun e w' => e = .returned (.bool b2) ∧ Below W.heap.size W w') := fun W hW => HW.out.same sj tb hmem (.inr (.inl rfl)) b2 eb2 (ht0.below hW) (HW.out.pb.below hW)
   have HS3 : Hid (∀ W, Below w.heap.size w W → Calls Tryz.prog 8 #[.slice q0 k0 c0, .slice (some ⟨gpc, 0, none⟩) n3 kpc] W fun e w' => e = .returned (.bool b3) ∧ Below W.heap.size W w') := fun W hW => HW.out.same sj tc hmem (.inr (.inr rfl)) b3 eb3 (ht0.below hW) (HW.out.pc.below hW)
   have HC0 : Hid (∀ W, Below w.heap.size w W → W.cell? ⟨gI, oI + j, none⟩ = some (.slice q0 k0 c0)) := fun W hW => (hW.cell (World.block_lt_of_cell? _ _ hc0)).trans hc0
   have HCV : Hid (∀ i, j = i + 1 → ∃ q1 k1' c1' v, v ≤ 0 ∧ (∀ W, Below w.heap.size w W → W.cell? ⟨gI, oI + i, none⟩ = some (.slice q1 k1' c1')) ∧ ∀ W, Below w.heap.size w W → Calls Tryz.prog 7 #[.slice q1 k1' c1', .slice q0 k0 c0] W fun e w' => e = .returned (.tuple #[.int .i64 v, .int .i64 0]) ∧ Below W.heap.size W w') := fun i hi => by
    subst hi; obtain ⟨q1, k1', c1', hc1', ht1'⟩ := HW.out.ri i (by omega)
    have hil : i < ia.length := by omega
    rw [map_getD ia i hil] at ht1'; refine ⟨q1, k1', c1', cmpC (itC ia[i]) (itC sj), ?_, fun W hW => (hW.cell (World.block_lt_of_cell? _ _ hc1')).trans hc1', fun W hW => HW.out.cmp ia[i] sj (HW.out.sa.mem _ (List.getElem_mem hil)) hmem _ rfl (ht1'.below hW) (ht0.below hW)⟩; rw [esj]; exact HW.out.sa.asc i hjl
   rw [← ef, ← et]; clear ht0 hc0 eb1 eb2 eb3 ef et hmem HF2 HT2 esj hjl
   have t2 : (t : Int).tmod 2 = ((t % 2 : Nat) : Int) := by rw [Int.tmod_eq_emod_of_nonneg (by omega)]; rfl
   obtain ⟨wq, hwq⟩ : ∃ wq, wq = wr := ⟨_, rfl⟩
   rcases (show j = 0 ∨ ∃ i, j = i + 1 from by cases j with | zero => exact .inl rfl | succ i => exact .inr ⟨i, rfl⟩) with rfl | ⟨i, rfl⟩
   ·have hc0 : (wr).cell? ⟨gI, oI, none⟩ = some (.slice q0 k0 c0) := HC0.out wr HBR.out
    clear HCV; go_wp2_with fail; refine (HS1.out wr HBR.out).mono ?_; rintro e w32 ⟨rfl, hb⟩; have HB32 : Hid (Below w.heap.size w w32) := Below.on HBR.out hb; have hc0 : w32.cell? ⟨gI, oI, none⟩ = some (.slice q0 k0 c0) := HC0.out w32 HB32.out; clear hb
    cases b1
    ·go_wp2_with fail
     refine (HS2.out w32 HB32.out).mono ?_; rintro e w33 ⟨rfl, hb⟩; have HB33 : Hid (Below w.heap.size w w33) := Below.on HB32.out hb; have hc0 : w33.cell? ⟨gI, oI, none⟩ = some (.slice q0 k0 c0) := HC0.out w33 HB33.out; clear hb
     cases b2
     ·go_wp2_with fail
      refine (HS3.out w33 HB33.out).mono ?_; rintro e w34 ⟨rfl, hb⟩; have HB34 : Hid (Below w.heap.size w w34) := Below.on HB33.out hb; clear hb hc0
      cases b3
      ·go_wp2_with fail
       have HTT : Hid (oth (itC tb) (itC tc) ((ia.map itC).take (0 + 1)) = t) := by
        show _ = _
        rw [HNX.out.2]
        rcases (by omega : t = 0 ∨ t = 1 ∨ t = 2 ∨ t = 3) with e | e | e | e <;> subst e <;> first | rfl | (exfalso; omega)
       go_roundw
       case rel => exact ⟨0 + 1, by omega, by first | rfl | go_num, by first | (rw [HNX.out.1]; done) | (rw [HNX.out.1]; rfl) | (rw [HNX.out.1]; go_num), by first | (rw [HTT.out]; done) | (rw [HTT.out]; rfl) | (rw [HTT.out]; go_num), HB34⟩
       case measure => first | (simp [intOf]; done) | (simp [intOf]; omega)
      ·by_cases hq : t < 2
       ·have hqz : ((t : Nat) : Int) < 2 := by omega
        go_wp2_with fail
        have HTT : Hid (oth (itC tb) (itC tc) ((ia.map itC).take (0 + 1)) = t + 2) := by
         show _ = _
         rw [HNX.out.2]
         rcases (by omega : t = 0 ∨ t = 1 ∨ t = 2 ∨ t = 3) with e | e | e | e <;> subst e <;> first | rfl | (exfalso; omega)
        go_roundw
        case rel => exact ⟨0 + 1, by omega, by first | rfl | go_num, by first | (rw [HNX.out.1]; done) | (rw [HNX.out.1]; rfl) | (rw [HNX.out.1]; go_num), by first | (rw [HTT.out]; done) | (rw [HTT.out]; rfl) | (rw [HTT.out]; go_num), HB34⟩
        case measure => first | (simp [intOf]; done) | (simp [intOf]; omega)
       ·have hqz : ¬ ((t : Nat) : Int) < 2 := by omega
        go_wp2_with fail
        have HTT : Hid (oth (itC tb) (itC tc) ((ia.map itC).take (0 + 1)) = t) := by
         show _ = _
         rw [HNX.out.2]
         rcases (by omega : t = 0 ∨ t = 1 ∨ t = 2 ∨ t = 3) with e | e | e | e <;> subst e <;> first | rfl | (exfalso; omega)
        go_roundw
        case rel => exact ⟨0 + 1, by omega, by first | rfl | go_num, by first | (rw [HNX.out.1]; done) | (rw [HNX.out.1]; rfl) | (rw [HNX.out.1]; go_num), by first | (rw [HTT.out]; done) | (rw [HTT.out]; rfl) | (rw [HTT.out]; go_num), HB34⟩
        case measure => first | (simp [intOf]; done) | (simp [intOf]; omega)
     ·by_cases hp : t % 2 = 0
      ·have hpz : (((t % 2 : Nat) : Int) == 0) = true := by rw [hp]; rfl
       go_wp2_with fail; refine (HS3.out w33 HB33.out).mono ?_; rintro e w34 ⟨rfl, hb⟩; have HB34 : Hid (Below w.heap.size w w34) := Below.on HB33.out hb; clear hb hc0
       cases b3
       ·go_wp2_with fail
        have HTT : Hid (oth (itC tb) (itC tc) ((ia.map itC).take (0 + 1)) = t + 1) := by
         show _ = _
         rw [HNX.out.2]
         rcases (by omega : t = 0 ∨ t = 1 ∨ t = 2 ∨ t = 3) with e | e | e | e <;> subst e <;> first | rfl | (exfalso; omega)
        go_roundw
        case rel => exact ⟨0 + 1, by omega, by first | rfl | go_num, by first | (rw [HNX.out.1]; done) | (rw [HNX.out.1]; rfl) | (rw [HNX.out.1]; go_num), by first | (rw [HTT.out]; done) | (rw [HTT.out]; rfl) | (rw [HTT.out]; go_num), HB34⟩
        case measure => first | (simp [intOf]; done) | (simp [intOf]; omega)
       ·by_cases hq : t + 1 < 2
        ·have hqz : ((t + 1 : Nat) : Int) < 2 := by omega
         have hqy : (t : Int) + 1 < 2 := by omega
         go_wp2_with fail
         have HTT : Hid (oth (itC tb) (itC tc) ((ia.map itC).take (0 + 1)) = t + 1 + 2) := by
          show _ = _
          rw [HNX.out.2]
          rcases (by omega : t = 0 ∨ t = 1 ∨ t = 2 ∨ t = 3) with e | e | e | e <;> subst e <;> first | rfl | (exfalso; omega)
         go_roundw
         case rel => exact ⟨0 + 1, by omega, by first | rfl | go_num, by first | (rw [HNX.out.1]; done) | (rw [HNX.out.1]; rfl) | (rw [HNX.out.1]; go_num), by first | (rw [HTT.out]; done) | (rw [HTT.out]; rfl) | (rw [HTT.out]; go_num), HB34⟩
         case measure => first | (simp [intOf]; done) | (simp [intOf]; omega)
        ·have hqz : ¬ ((t + 1 : Nat) : Int) < 2 := by omega
         have hqy : ¬ (t : Int) + 1 < 2 := by omega
         go_wp2_with fail
         have HTT : Hid (oth (itC tb) (itC tc) ((ia.map itC).take (0 + 1)) = t + 1) := by
          show _ = _
          rw [HNX.out.2]
          rcases (by omega : t = 0 ∨ t = 1 ∨ t = 2 ∨ t = 3) with e | e | e | e <;> subst e <;> first | rfl | (exfalso; omega)
         go_roundw
         case rel => exact ⟨0 + 1, by omega, by first | rfl | go_num, by first | (rw [HNX.out.1]; done) | (rw [HNX.out.1]; rfl) | (rw [HNX.out.1]; go_num), by first | (rw [HTT.out]; done) | (rw [HTT.out]; rfl) | (rw [HTT.out]; go_num), HB34⟩
         case measure => first | (simp [intOf]; done) | (simp [intOf]; omega)
      ·have hpz : (((t % 2 : Nat) : Int) == 0) = false := by rw [beq_eq_false_iff_ne]; omega
       go_wp2_with fail; refine (HS3.out w33 HB33.out).mono ?_; rintro e w34 ⟨rfl, hb⟩; have HB34 : Hid (Below w.heap.size w w34) := Below.on HB33.out hb; clear hb hc0
       cases b3
       ·go_wp2_with fail
        have HTT : Hid (oth (itC tb) (itC tc) ((ia.map itC).take (0 + 1)) = t) := by
         show _ = _
         rw [HNX.out.2]
         rcases (by omega : t = 0 ∨ t = 1 ∨ t = 2 ∨ t = 3) with e | e | e | e <;> subst e <;> first | rfl | (exfalso; omega)
        go_roundw
        case rel => exact ⟨0 + 1, by omega, by first | rfl | go_num, by first | (rw [HNX.out.1]; done) | (rw [HNX.out.1]; rfl) | (rw [HNX.out.1]; go_num), by first | (rw [HTT.out]; done) | (rw [HTT.out]; rfl) | (rw [HTT.out]; go_num), HB34⟩
        case measure => first | (simp [intOf]; done) | (simp [intOf]; omega)
       ·by_cases hq : t < 2
        ·have hqz : ((t : Nat) : Int) < 2 := by omega
         go_wp2_with fail
         have HTT : Hid (oth (itC tb) (itC tc) ((ia.map itC).take (0 + 1)) = t + 2) := by
          show _ = _
          rw [HNX.out.2]
          rcases (by omega : t = 0 ∨ t = 1 ∨ t = 2 ∨ t = 3) with e | e | e | e <;> subst e <;> first | rfl | (exfalso; omega)
         go_roundw
         case rel => exact ⟨0 + 1, by omega, by first | rfl | go_num, by first | (rw [HNX.out.1]; done) | (rw [HNX.out.1]; rfl) | (rw [HNX.out.1]; go_num), by first | (rw [HTT.out]; done) | (rw [HTT.out]; rfl) | (rw [HTT.out]; go_num), HB34⟩
         case measure => first | (simp [intOf]; done) | (simp [intOf]; omega)
        ·have hqz : ¬ ((t : Nat) : Int) < 2 := by omega
         go_wp2_with fail
         have HTT : Hid (oth (itC tb) (itC tc) ((ia.map itC).take (0 + 1)) = t) := by
          show _ = _
          rw [HNX.out.2]
          rcases (by omega : t = 0 ∨ t = 1 ∨ t = 2 ∨ t = 3) with e | e | e | e <;> subst e <;> first | rfl | (exfalso; omega)
         go_roundw
         case rel => exact ⟨0 + 1, by omega, by first | rfl | go_num, by first | (rw [HNX.out.1]; done) | (rw [HNX.out.1]; rfl) | (rw [HNX.out.1]; go_num), by first | (rw [HTT.out]; done) | (rw [HTT.out]; rfl) | (rw [HTT.out]; go_num), HB34⟩
         case measure => first | (simp [intOf]; done) | (simp [intOf]; omega)
    ·go_wp2_with fail
     refine (HS2.out w32 HB32.out).mono ?_; rintro e w33 ⟨rfl, hb⟩; have HB33 : Hid (Below w.heap.size w w33) := Below.on HB32.out hb; have hc0 : w33.cell? ⟨gI, oI, none⟩ = some (.slice q0 k0 c0) := HC0.out w33 HB33.out; clear hb
     cases b2
     ·go_wp2_with fail
      refine (HS3.out w33 HB33.out).mono ?_; rintro e w34 ⟨rfl, hb⟩; have HB34 : Hid (Below w.heap.size w w34) := Below.on HB33.out hb; clear hb hc0
      cases b3
      ·go_wp2_with fail
       have HTT : Hid (oth (itC tb) (itC tc) ((ia.map itC).take (0 + 1)) = t) := by
        show _ = _
        rw [HNX.out.2]
        rcases (by omega : t = 0 ∨ t = 1 ∨ t = 2 ∨ t = 3) with e | e | e | e <;> subst e <;> first | rfl | (exfalso; omega)
       go_roundw
       case rel => exact ⟨0 + 1, by omega, by first | rfl | go_num, by first | (rw [HNX.out.1]; done) | (rw [HNX.out.1]; rfl) | (rw [HNX.out.1]; go_num), by first | (rw [HTT.out]; done) | (rw [HTT.out]; rfl) | (rw [HTT.out]; go_num), HB34⟩
       case measure => first | (simp [intOf]; done) | (simp [intOf]; omega)
      ·by_cases hq : t < 2
       ·have hqz : ((t : Nat) : Int) < 2 := by omega
        go_wp2_with fail
        have HTT : Hid (oth (itC tb) (itC tc) ((ia.map itC).take (0 + 1)) = t + 2) := by
         show _ = _
         rw [HNX.out.2]
         rcases (by omega : t = 0 ∨ t = 1 ∨ t = 2 ∨ t = 3) with e | e | e | e <;> subst e <;> first | rfl | (exfalso; omega)
        go_roundw
        case rel => exact ⟨0 + 1, by omega, by first | rfl | go_num, by first | (rw [HNX.out.1]; done) | (rw [HNX.out.1]; rfl) | (rw [HNX.out.1]; go_num), by first | (rw [HTT.out]; done) | (rw [HTT.out]; rfl) | (rw [HTT.out]; go_num), HB34⟩
        case measure => first | (simp [intOf]; done) | (simp [intOf]; omega)
       ·have hqz : ¬ ((t : Nat) : Int) < 2 := by omega
        go_wp2_with fail
        have HTT : Hid (oth (itC tb) (itC tc) ((ia.map itC).take (0 + 1)) = t) := by
         show _ = _
         rw [HNX.out.2]
         rcases (by omega : t = 0 ∨ t = 1 ∨ t = 2 ∨ t = 3) with e | e | e | e <;> subst e <;> first | rfl | (exfalso; omega)
        go_roundw
        case rel => exact ⟨0 + 1, by omega, by first | rfl | go_num, by first | (rw [HNX.out.1]; done) | (rw [HNX.out.1]; rfl) | (rw [HNX.out.1]; go_num), by first | (rw [HTT.out]; done) | (rw [HTT.out]; rfl) | (rw [HTT.out]; go_num), HB34⟩
        case measure => first | (simp [intOf]; done) | (simp [intOf]; omega)
     ·by_cases hp : t % 2 = 0
      ·have hpz : (((t % 2 : Nat) : Int) == 0) = true := by rw [hp]; rfl
       go_wp2_with fail; refine (HS3.out w33 HB33.out).mono ?_; rintro e w34 ⟨rfl, hb⟩; have HB34 : Hid (Below w.heap.size w w34) := Below.on HB33.out hb; clear hb hc0
       cases b3
       ·go_wp2_with fail
        have HTT : Hid (oth (itC tb) (itC tc) ((ia.map itC).take (0 + 1)) = t + 1) := by
         show _ = _
         rw [HNX.out.2]
         rcases (by omega : t = 0 ∨ t = 1 ∨ t = 2 ∨ t = 3) with e | e | e | e <;> subst e <;> first | rfl | (exfalso; omega)
        go_roundw
        case rel => exact ⟨0 + 1, by omega, by first | rfl | go_num, by first | (rw [HNX.out.1]; done) | (rw [HNX.out.1]; rfl) | (rw [HNX.out.1]; go_num), by first | (rw [HTT.out]; done) | (rw [HTT.out]; rfl) | (rw [HTT.out]; go_num), HB34⟩
        case measure => first | (simp [intOf]; done) | (simp [intOf]; omega)
       ·by_cases hq : t + 1 < 2
        ·have hqz : ((t + 1 : Nat) : Int) < 2 := by omega
         have hqy : (t : Int) + 1 < 2 := by omega
         go_wp2_with fail
         have HTT : Hid (oth (itC tb) (itC tc) ((ia.map itC).take (0 + 1)) = t + 1 + 2) := by
          show _ = _
          rw [HNX.out.2]
          rcases (by omega : t = 0 ∨ t = 1 ∨ t = 2 ∨ t = 3) with e | e | e | e <;> subst e <;> first | rfl | (exfalso; omega)
         go_roundw
         case rel => exact ⟨0 + 1, by omega, by first | rfl | go_num, by first | (rw [HNX.out.1]; done) | (rw [HNX.out.1]; rfl) | (rw [HNX.out.1]; go_num), by first | (rw [HTT.out]; done) | (rw [HTT.out]; rfl) | (rw [HTT.out]; go_num), HB34⟩
         case measure => first | (simp [intOf]; done) | (simp [intOf]; omega)
        ·have hqz : ¬ ((t + 1 : Nat) : Int) < 2 := by omega
         have hqy : ¬ (t : Int) + 1 < 2 := by omega
         go_wp2_with fail
         have HTT : Hid (oth (itC tb) (itC tc) ((ia.map itC).take (0 + 1)) = t + 1) := by
          show _ = _
          rw [HNX.out.2]
          rcases (by omega : t = 0 ∨ t = 1 ∨ t = 2 ∨ t = 3) with e | e | e | e <;> subst e <;> first | rfl | (exfalso; omega)
         go_roundw
         case rel => exact ⟨0 + 1, by omega, by first | rfl | go_num, by first | (rw [HNX.out.1]; done) | (rw [HNX.out.1]; rfl) | (rw [HNX.out.1]; go_num), by first | (rw [HTT.out]; done) | (rw [HTT.out]; rfl) | (rw [HTT.out]; go_num), HB34⟩
         case measure => first | (simp [intOf]; done) | (simp [intOf]; omega)
      ·have hpz : (((t % 2 : Nat) : Int) == 0) = false := by rw [beq_eq_false_iff_ne]; omega
       go_wp2_with fail; refine (HS3.out w33 HB33.out).mono ?_; rintro e w34 ⟨rfl, hb⟩; have HB34 : Hid (Below w.heap.size w w34) := Below.on HB33.out hb; clear hb hc0
       cases b3
       ·go_wp2_with fail
        have HTT : Hid (oth (itC tb) (itC tc) ((ia.map itC).take (0 + 1)) = t) := by
         show _ = _
         rw [HNX.out.2]
         rcases (by omega : t = 0 ∨ t = 1 ∨ t = 2 ∨ t = 3) with e | e | e | e <;> subst e <;> first | rfl | (exfalso; omega)
        go_roundw
        case rel => exact ⟨0 + 1, by omega, by first | rfl | go_num, by first | (rw [HNX.out.1]; done) | (rw [HNX.out.1]; rfl) | (rw [HNX.out.1]; go_num), by first | (rw [HTT.out]; done) | (rw [HTT.out]; rfl) | (rw [HTT.out]; go_num), HB34⟩
        case measure => first | (simp [intOf]; done) | (simp [intOf]; omega)
       ·by_cases hq : t < 2
        ·have hqz : ((t : Nat) : Int) < 2 := by omega
         go_wp2_with fail
         have HTT : Hid (oth (itC tb) (itC tc) ((ia.map itC).take (0 + 1)) = t + 2) := by
          show _ = _
          rw [HNX.out.2]
          rcases (by omega : t = 0 ∨ t = 1 ∨ t = 2 ∨ t = 3) with e | e | e | e <;> subst e <;> first | rfl | (exfalso; omega)
         go_roundw
         case rel => exact ⟨0 + 1, by omega, by first | rfl | go_num, by first | (rw [HNX.out.1]; done) | (rw [HNX.out.1]; rfl) | (rw [HNX.out.1]; go_num), by first | (rw [HTT.out]; done) | (rw [HTT.out]; rfl) | (rw [HTT.out]; go_num), HB34⟩
         case measure => first | (simp [intOf]; done) | (simp [intOf]; omega)
        ·have hqz : ¬ ((t : Nat) : Int) < 2 := by omega
         go_wp2_with fail
         have HTT : Hid (oth (itC tb) (itC tc) ((ia.map itC).take (0 + 1)) = t) := by
          show _ = _
          rw [HNX.out.2]
          rcases (by omega : t = 0 ∨ t = 1 ∨ t = 2 ∨ t = 3) with e | e | e | e <;> subst e <;> first | rfl | (exfalso; omega)
         go_roundw
         case rel => exact ⟨0 + 1, by omega, by first | rfl | go_num, by first | (rw [HNX.out.1]; done) | (rw [HNX.out.1]; rfl) | (rw [HNX.out.1]; go_num), by first | (rw [HTT.out]; done) | (rw [HTT.out]; rfl) | (rw [HTT.out]; go_num), HB34⟩
         case measure => first | (simp [intOf]; done) | (simp [intOf]; omega)
   ·obtain ⟨q1, k1', c1', v, hv, hcv, HCV2⟩ := HCV.out i rfl
    have HCW : Hid (∀ W, Below w.heap.size w W → Calls Tryz.prog 7 #[.slice q1 k1' c1', .slice q0 k0 c0] W fun e w' => e = .returned (.tuple #[.int .i64 v, .int .i64 0]) ∧ Below W.heap.size W w') := HCV2
    have HC1 : Hid (∀ W, Below w.heap.size w W → W.cell? ⟨gI, oI + i, none⟩ = some (.slice q1 k1' c1') ∧ W.cell? ⟨gI, oI + (i + 1), none⟩ = some (.slice q0 k0 c0)) := fun W hW => ⟨hcv W hW, HC0.out W hW⟩
    have hS := HC1.out wr HBR.out
    have p1 : (0 : Int) ≤ (i : Int) + 1 := by omega
    have p2 : (i : Int) + 1 < 4 := by omega
    have p3 : (0 : Int) ≤ (i : Int) := by omega
    have p4 : (i : Int) < 4 := by omega
    have p5 : IntKind.i64.wrap ((i : Int) + 1) = (i : Int) + 1 := by rw [IntKind.wrap_i64]; omega
    have p6 : IntKind.i64.wrap (i : Int) = (i : Int) := by rw [IntKind.wrap_i64]; omega
    have p7 : ((i : Int) + 1).toNat = i + 1 := by omega
    clear hcv HCV2; go_wp2_with fail
    go_region_held3 (fun W => W.cell? ⟨gI, oI + i, none⟩ = some (.slice q1 k1' c1') ∧ W.cell? ⟨gI, oI + (i + 1), none⟩ = some (.slice q0 k0 c0)) (first | exact kk | exact hS | go_keep)
     ((go_at_call 7; refine Calls.mono (HCW.out _ (HBR.out.drew)) ?_; rintro e w31 ⟨rfl, hb31⟩; have HB31 : Hid (Below w.heap.size w w31) := Below.on HBR.out.drew hb31; have kk := HC1.out w31 HB31.out; clear hb31))
    rename_i hheld
    clear hheld kk hS HCW HC1; have hc0 : (w31).cell? ⟨gI, oI + (i + 1), none⟩ = some (.slice q0 k0 c0) := HC0.out w31 HB31.out; clear HCV; go_wp2_with fail; refine (HS1.out w31 HB31.out).mono ?_; rintro e w32 ⟨rfl, hb⟩; have HB32 : Hid (Below w.heap.size w w32) := Below.on HB31.out hb; have hc0 : w32.cell? ⟨gI, oI + (i + 1), none⟩ = some (.slice q0 k0 c0) := HC0.out w32 HB32.out; clear hb
    cases b1
    ·go_wp2_with fail
     refine (HS2.out w32 HB32.out).mono ?_; rintro e w33 ⟨rfl, hb⟩; have HB33 : Hid (Below w.heap.size w w33) := Below.on HB32.out hb; have hc0 : w33.cell? ⟨gI, oI + (i + 1), none⟩ = some (.slice q0 k0 c0) := HC0.out w33 HB33.out; clear hb
     cases b2
     ·go_wp2_with fail
      refine (HS3.out w33 HB33.out).mono ?_; rintro e w34 ⟨rfl, hb⟩; have HB34 : Hid (Below w.heap.size w w34) := Below.on HB33.out hb; clear hb hc0
      cases b3
      ·go_wp2_with fail
       have HTT : Hid (oth (itC tb) (itC tc) ((ia.map itC).take ((i + 1) + 1)) = t) := by
        show _ = _
        rw [HNX.out.2]
        rcases (by omega : t = 0 ∨ t = 1 ∨ t = 2 ∨ t = 3) with e | e | e | e <;> subst e <;> first | rfl | (exfalso; omega)
       go_roundw
       case rel => exact ⟨(i + 1) + 1, by omega, by first | rfl | go_num, by first | (rw [HNX.out.1]; done) | (rw [HNX.out.1]; rfl) | (rw [HNX.out.1]; go_num), by first | (rw [HTT.out]; done) | (rw [HTT.out]; rfl) | (rw [HTT.out]; go_num), HB34⟩
       case measure => first | (simp [intOf]; done) | (simp [intOf]; omega)
      ·by_cases hq : t < 2
       ·have hqz : ((t : Nat) : Int) < 2 := by omega
        go_wp2_with fail
        have HTT : Hid (oth (itC tb) (itC tc) ((ia.map itC).take ((i + 1) + 1)) = t + 2) := by
         show _ = _
         rw [HNX.out.2]
         rcases (by omega : t = 0 ∨ t = 1 ∨ t = 2 ∨ t = 3) with e | e | e | e <;> subst e <;> first | rfl | (exfalso; omega)
        go_roundw
        case rel => exact ⟨(i + 1) + 1, by omega, by first | rfl | go_num, by first | (rw [HNX.out.1]; done) | (rw [HNX.out.1]; rfl) | (rw [HNX.out.1]; go_num), by first | (rw [HTT.out]; done) | (rw [HTT.out]; rfl) | (rw [HTT.out]; go_num), HB34⟩
        case measure => first | (simp [intOf]; done) | (simp [intOf]; omega)
       ·have hqz : ¬ ((t : Nat) : Int) < 2 := by omega
        go_wp2_with fail
        have HTT : Hid (oth (itC tb) (itC tc) ((ia.map itC).take ((i + 1) + 1)) = t) := by
         show _ = _
         rw [HNX.out.2]
         rcases (by omega : t = 0 ∨ t = 1 ∨ t = 2 ∨ t = 3) with e | e | e | e <;> subst e <;> first | rfl | (exfalso; omega)
        go_roundw
        case rel => exact ⟨(i + 1) + 1, by omega, by first | rfl | go_num, by first | (rw [HNX.out.1]; done) | (rw [HNX.out.1]; rfl) | (rw [HNX.out.1]; go_num), by first | (rw [HTT.out]; done) | (rw [HTT.out]; rfl) | (rw [HTT.out]; go_num), HB34⟩
        case measure => first | (simp [intOf]; done) | (simp [intOf]; omega)
     ·by_cases hp : t % 2 = 0
      ·have hpz : (((t % 2 : Nat) : Int) == 0) = true := by rw [hp]; rfl
       go_wp2_with fail; refine (HS3.out w33 HB33.out).mono ?_; rintro e w34 ⟨rfl, hb⟩; have HB34 : Hid (Below w.heap.size w w34) := Below.on HB33.out hb; clear hb hc0
       cases b3
       ·go_wp2_with fail
        have HTT : Hid (oth (itC tb) (itC tc) ((ia.map itC).take ((i + 1) + 1)) = t + 1) := by
         show _ = _
         rw [HNX.out.2]
         rcases (by omega : t = 0 ∨ t = 1 ∨ t = 2 ∨ t = 3) with e | e | e | e <;> subst e <;> first | rfl | (exfalso; omega)
        go_roundw
        case rel => exact ⟨(i + 1) + 1, by omega, by first | rfl | go_num, by first | (rw [HNX.out.1]; done) | (rw [HNX.out.1]; rfl) | (rw [HNX.out.1]; go_num), by first | (rw [HTT.out]; done) | (rw [HTT.out]; rfl) | (rw [HTT.out]; go_num), HB34⟩
        case measure => first | (simp [intOf]; done) | (simp [intOf]; omega)
       ·by_cases hq : t + 1 < 2
        ·have hqz : ((t + 1 : Nat) : Int) < 2 := by omega
         have hqy : (t : Int) + 1 < 2 := by omega
         go_wp2_with fail
         have HTT : Hid (oth (itC tb) (itC tc) ((ia.map itC).take ((i + 1) + 1)) = t + 1 + 2) := by
          show _ = _
          rw [HNX.out.2]
          rcases (by omega : t = 0 ∨ t = 1 ∨ t = 2 ∨ t = 3) with e | e | e | e <;> subst e <;> first | rfl | (exfalso; omega)
         go_roundw
         case rel => exact ⟨(i + 1) + 1, by omega, by first | rfl | go_num, by first | (rw [HNX.out.1]; done) | (rw [HNX.out.1]; rfl) | (rw [HNX.out.1]; go_num), by first | (rw [HTT.out]; done) | (rw [HTT.out]; rfl) | (rw [HTT.out]; go_num), HB34⟩
         case measure => first | (simp [intOf]; done) | (simp [intOf]; omega)
        ·have hqz : ¬ ((t + 1 : Nat) : Int) < 2 := by omega
         have hqy : ¬ (t : Int) + 1 < 2 := by omega
         go_wp2_with fail
         have HTT : Hid (oth (itC tb) (itC tc) ((ia.map itC).take ((i + 1) + 1)) = t + 1) := by
          show _ = _
          rw [HNX.out.2]
          rcases (by omega : t = 0 ∨ t = 1 ∨ t = 2 ∨ t = 3) with e | e | e | e <;> subst e <;> first | rfl | (exfalso; omega)
         go_roundw
         case rel => exact ⟨(i + 1) + 1, by omega, by first | rfl | go_num, by first | (rw [HNX.out.1]; done) | (rw [HNX.out.1]; rfl) | (rw [HNX.out.1]; go_num), by first | (rw [HTT.out]; done) | (rw [HTT.out]; rfl) | (rw [HTT.out]; go_num), HB34⟩
         case measure => first | (simp [intOf]; done) | (simp [intOf]; omega)
      ·have hpz : (((t % 2 : Nat) : Int) == 0) = false := by rw [beq_eq_false_iff_ne]; omega
       go_wp2_with fail; refine (HS3.out w33 HB33.out).mono ?_; rintro e w34 ⟨rfl, hb⟩; have HB34 : Hid (Below w.heap.size w w34) := Below.on HB33.out hb; clear hb hc0
       cases b3
       ·go_wp2_with fail
        have HTT : Hid (oth (itC tb) (itC tc) ((ia.map itC).take ((i + 1) + 1)) = t) := by
         show _ = _
         rw [HNX.out.2]
         rcases (by omega : t = 0 ∨ t = 1 ∨ t = 2 ∨ t = 3) with e | e | e | e <;> subst e <;> first | rfl | (exfalso; omega)
        go_roundw
        case rel => exact ⟨(i + 1) + 1, by omega, by first | rfl | go_num, by first | (rw [HNX.out.1]; done) | (rw [HNX.out.1]; rfl) | (rw [HNX.out.1]; go_num), by first | (rw [HTT.out]; done) | (rw [HTT.out]; rfl) | (rw [HTT.out]; go_num), HB34⟩
        case measure => first | (simp [intOf]; done) | (simp [intOf]; omega)
       ·by_cases hq : t < 2
        ·have hqz : ((t : Nat) : Int) < 2 := by omega
         go_wp2_with fail
         have HTT : Hid (oth (itC tb) (itC tc) ((ia.map itC).take ((i + 1) + 1)) = t + 2) := by
          show _ = _
          rw [HNX.out.2]
          rcases (by omega : t = 0 ∨ t = 1 ∨ t = 2 ∨ t = 3) with e | e | e | e <;> subst e <;> first | rfl | (exfalso; omega)
         go_roundw
         case rel => exact ⟨(i + 1) + 1, by omega, by first | rfl | go_num, by first | (rw [HNX.out.1]; done) | (rw [HNX.out.1]; rfl) | (rw [HNX.out.1]; go_num), by first | (rw [HTT.out]; done) | (rw [HTT.out]; rfl) | (rw [HTT.out]; go_num), HB34⟩
         case measure => first | (simp [intOf]; done) | (simp [intOf]; omega)
        ·have hqz : ¬ ((t : Nat) : Int) < 2 := by omega
         go_wp2_with fail
         have HTT : Hid (oth (itC tb) (itC tc) ((ia.map itC).take ((i + 1) + 1)) = t) := by
          show _ = _
          rw [HNX.out.2]
          rcases (by omega : t = 0 ∨ t = 1 ∨ t = 2 ∨ t = 3) with e | e | e | e <;> subst e <;> first | rfl | (exfalso; omega)
         go_roundw
         case rel => exact ⟨(i + 1) + 1, by omega, by first | rfl | go_num, by first | (rw [HNX.out.1]; done) | (rw [HNX.out.1]; rfl) | (rw [HNX.out.1]; go_num), by first | (rw [HTT.out]; done) | (rw [HTT.out]; rfl) | (rw [HTT.out]; go_num), HB34⟩
         case measure => first | (simp [intOf]; done) | (simp [intOf]; omega)
    ·go_wp2_with fail
     refine (HS2.out w32 HB32.out).mono ?_; rintro e w33 ⟨rfl, hb⟩; have HB33 : Hid (Below w.heap.size w w33) := Below.on HB32.out hb; have hc0 : w33.cell? ⟨gI, oI + (i + 1), none⟩ = some (.slice q0 k0 c0) := HC0.out w33 HB33.out; clear hb
     cases b2
     ·go_wp2_with fail
      refine (HS3.out w33 HB33.out).mono ?_; rintro e w34 ⟨rfl, hb⟩; have HB34 : Hid (Below w.heap.size w w34) := Below.on HB33.out hb; clear hb hc0
      cases b3
      ·go_wp2_with fail
       have HTT : Hid (oth (itC tb) (itC tc) ((ia.map itC).take ((i + 1) + 1)) = t) := by
        show _ = _
        rw [HNX.out.2]
        rcases (by omega : t = 0 ∨ t = 1 ∨ t = 2 ∨ t = 3) with e | e | e | e <;> subst e <;> first | rfl | (exfalso; omega)
       go_roundw
       case rel => exact ⟨(i + 1) + 1, by omega, by first | rfl | go_num, by first | (rw [HNX.out.1]; done) | (rw [HNX.out.1]; rfl) | (rw [HNX.out.1]; go_num), by first | (rw [HTT.out]; done) | (rw [HTT.out]; rfl) | (rw [HTT.out]; go_num), HB34⟩
       case measure => first | (simp [intOf]; done) | (simp [intOf]; omega)
      ·by_cases hq : t < 2
       ·have hqz : ((t : Nat) : Int) < 2 := by omega
        go_wp2_with fail
        have HTT : Hid (oth (itC tb) (itC tc) ((ia.map itC).take ((i + 1) + 1)) = t + 2) := by
         show _ = _
         rw [HNX.out.2]
         rcases (by omega : t = 0 ∨ t = 1 ∨ t = 2 ∨ t = 3) with e | e | e | e <;> subst e <;> first | rfl | (exfalso; omega)
        go_roundw
        case rel => exact ⟨(i + 1) + 1, by omega, by first | rfl | go_num, by first | (rw [HNX.out.1]; done) | (rw [HNX.out.1]; rfl) | (rw [HNX.out.1]; go_num), by first | (rw [HTT.out]; done) | (rw [HTT.out]; rfl) | (rw [HTT.out]; go_num), HB34⟩
        case measure => first | (simp [intOf]; done) | (simp [intOf]; omega)
       ·have hqz : ¬ ((t : Nat) : Int) < 2 := by omega
        go_wp2_with fail
        have HTT : Hid (oth (itC tb) (itC tc) ((ia.map itC).take ((i + 1) + 1)) = t) := by
         show _ = _
         rw [HNX.out.2]
         rcases (by omega : t = 0 ∨ t = 1 ∨ t = 2 ∨ t = 3) with e | e | e | e <;> subst e <;> first | rfl | (exfalso; omega)
        go_roundw
        case rel => exact ⟨(i + 1) + 1, by omega, by first | rfl | go_num, by first | (rw [HNX.out.1]; done) | (rw [HNX.out.1]; rfl) | (rw [HNX.out.1]; go_num), by first | (rw [HTT.out]; done) | (rw [HTT.out]; rfl) | (rw [HTT.out]; go_num), HB34⟩
        case measure => first | (simp [intOf]; done) | (simp [intOf]; omega)
     ·by_cases hp : t % 2 = 0
      ·have hpz : (((t % 2 : Nat) : Int) == 0) = true := by rw [hp]; rfl
       go_wp2_with fail; refine (HS3.out w33 HB33.out).mono ?_; rintro e w34 ⟨rfl, hb⟩; have HB34 : Hid (Below w.heap.size w w34) := Below.on HB33.out hb; clear hb hc0
       cases b3
       ·go_wp2_with fail
        have HTT : Hid (oth (itC tb) (itC tc) ((ia.map itC).take ((i + 1) + 1)) = t + 1) := by
         show _ = _
         rw [HNX.out.2]
         rcases (by omega : t = 0 ∨ t = 1 ∨ t = 2 ∨ t = 3) with e | e | e | e <;> subst e <;> first | rfl | (exfalso; omega)
        go_roundw
        case rel => exact ⟨(i + 1) + 1, by omega, by first | rfl | go_num, by first | (rw [HNX.out.1]; done) | (rw [HNX.out.1]; rfl) | (rw [HNX.out.1]; go_num), by first | (rw [HTT.out]; done) | (rw [HTT.out]; rfl) | (rw [HTT.out]; go_num), HB34⟩
        case measure => first | (simp [intOf]; done) | (simp [intOf]; omega)
       ·by_cases hq : t + 1 < 2
        ·have hqz : ((t + 1 : Nat) : Int) < 2 := by omega
         have hqy : (t : Int) + 1 < 2 := by omega
         go_wp2_with fail
         have HTT : Hid (oth (itC tb) (itC tc) ((ia.map itC).take ((i + 1) + 1)) = t + 1 + 2) := by
          show _ = _
          rw [HNX.out.2]
          rcases (by omega : t = 0 ∨ t = 1 ∨ t = 2 ∨ t = 3) with e | e | e | e <;> subst e <;> first | rfl | (exfalso; omega)
         go_roundw
         case rel => exact ⟨(i + 1) + 1, by omega, by first | rfl | go_num, by first | (rw [HNX.out.1]; done) | (rw [HNX.out.1]; rfl) | (rw [HNX.out.1]; go_num), by first | (rw [HTT.out]; done) | (rw [HTT.out]; rfl) | (rw [HTT.out]; go_num), HB34⟩
         case measure => first | (simp [intOf]; done) | (simp [intOf]; omega)
        ·have hqz : ¬ ((t + 1 : Nat) : Int) < 2 := by omega
         have hqy : ¬ (t : Int) + 1 < 2 := by omega
         go_wp2_with fail
         have HTT : Hid (oth (itC tb) (itC tc) ((ia.map itC).take ((i + 1) + 1)) = t + 1) := by
          show _ = _
          rw [HNX.out.2]
          rcases (by omega : t = 0 ∨ t = 1 ∨ t = 2 ∨ t = 3) with e | e | e | e <;> subst e <;> first | rfl | (exfalso; omega)
         go_roundw
         case rel => exact ⟨(i + 1) + 1, by omega, by first | rfl | go_num, by first | (rw [HNX.out.1]; done) | (rw [HNX.out.1]; rfl) | (rw [HNX.out.1]; go_num), by first | (rw [HTT.out]; done) | (rw [HTT.out]; rfl) | (rw [HTT.out]; go_num), HB34⟩
         case measure => first | (simp [intOf]; done) | (simp [intOf]; omega)
      ·have hpz : (((t % 2 : Nat) : Int) == 0) = false := by rw [beq_eq_false_iff_ne]; omega
       go_wp2_with fail; refine (HS3.out w33 HB33.out).mono ?_; rintro e w34 ⟨rfl, hb⟩; have HB34 : Hid (Below w.heap.size w w34) := Below.on HB33.out hb; clear hb hc0
       cases b3
       ·go_wp2_with fail
        have HTT : Hid (oth (itC tb) (itC tc) ((ia.map itC).take ((i + 1) + 1)) = t) := by
         show _ = _
         rw [HNX.out.2]
         rcases (by omega : t = 0 ∨ t = 1 ∨ t = 2 ∨ t = 3) with e | e | e | e <;> subst e <;> first | rfl | (exfalso; omega)
        go_roundw
        case rel => exact ⟨(i + 1) + 1, by omega, by first | rfl | go_num, by first | (rw [HNX.out.1]; done) | (rw [HNX.out.1]; rfl) | (rw [HNX.out.1]; go_num), by first | (rw [HTT.out]; done) | (rw [HTT.out]; rfl) | (rw [HTT.out]; go_num), HB34⟩
        case measure => first | (simp [intOf]; done) | (simp [intOf]; omega)
       ·by_cases hq : t < 2
        ·have hqz : ((t : Nat) : Int) < 2 := by omega
         go_wp2_with fail
         have HTT : Hid (oth (itC tb) (itC tc) ((ia.map itC).take ((i + 1) + 1)) = t + 2) := by
          show _ = _
          rw [HNX.out.2]
          rcases (by omega : t = 0 ∨ t = 1 ∨ t = 2 ∨ t = 3) with e | e | e | e <;> subst e <;> first | rfl | (exfalso; omega)
         go_roundw
         case rel => exact ⟨(i + 1) + 1, by omega, by first | rfl | go_num, by first | (rw [HNX.out.1]; done) | (rw [HNX.out.1]; rfl) | (rw [HNX.out.1]; go_num), by first | (rw [HTT.out]; done) | (rw [HTT.out]; rfl) | (rw [HTT.out]; go_num), HB34⟩
         case measure => first | (simp [intOf]; done) | (simp [intOf]; omega)
        ·have hqz : ¬ ((t : Nat) : Int) < 2 := by omega
         go_wp2_with fail
         have HTT : Hid (oth (itC tb) (itC tc) ((ia.map itC).take ((i + 1) + 1)) = t) := by
          show _ = _
          rw [HNX.out.2]
          rcases (by omega : t = 0 ∨ t = 1 ∨ t = 2 ∨ t = 3) with e | e | e | e <;> subst e <;> first | rfl | (exfalso; omega)
         go_roundw
         case rel => exact ⟨(i + 1) + 1, by omega, by first | rfl | go_num, by first | (rw [HNX.out.1]; done) | (rw [HNX.out.1]; rfl) | (rw [HNX.out.1]; go_num), by first | (rw [HTT.out]; done) | (rw [HTT.out]; rfl) | (rw [HTT.out]; go_num), HB34⟩
         case measure => first | (simp [intOf]; done) | (simp [intOf]; omega)
  ·obtain rfl : j = 4 := by omega
   have hT : oth (itC tb) (itC tc) ((ia.map itC).take 4) = 3 := by rw [List.take_of_length_le (by rw [List.length_map, HW.out.sa.len]; exact Nat.le_refl _)]; exact HW.out.sa.three
   have hF : 2 ≤ fnd (itC ta) ((ia.map itC).take 4) := by rw [List.take_of_length_le (by rw [List.length_map, HW.out.sa.len]; exact Nat.le_refl _)]; exact HW.out.sa.two
   have hF4 : fnd (itC ta) ((ia.map itC).take 4) ≤ 4 := Nat.le_trans List.countP_le_length (by simp; omega); rw [hT]; have h33 : ((3 : Nat) : Int) = 3 := rfl; have h44 : ((4 : Nat) : Int) = 4 := rfl; rw [h33, h44]; clear h33 h44
   obtain ⟨F, eF⟩ : ∃ F, F = fnd (itC ta) ((ia.map itC).take 4) := ⟨_, rfl⟩
   rw [← eF] at hF hF4 ⊢; clear hT eF
   have hk1 : 0 < k1 := by rw [HW.out.kj]; exact HW.out.sb.pos
   have hk3 : k1 ≤ 3 := by rw [HW.out.kj]; exact HW.out.sb.few
   have hFz : (2 : Int) ≤ (F : Int) := by omega
   go_wp2_with fail
   go_loopw [35] (fun i wr => ∃ r : Nat, r + 1 ≤ k1 ∧ i = .int .i64 (r + 1 : Nat) ∧ Hid (Below w.heap.size w wr)) (fun i _ => k1 - (intOf i).toNat)
   case atStart => exact ⟨0, by omega, rfl, HBR⟩
   case round =>
    obtain ⟨r, hr, rfl, HBR⟩ := hrel
    by_cases hlt : r + 1 < k1
    ·obtain ⟨q0, k0, c0, hc0, ht0⟩ := HW.out.rj (r + 1) hlt
     obtain ⟨q1, k1', c1', hc1, ht1⟩ := HW.out.rj r (by omega)
     have hl0 : r + 1 < (compB fI ib).length := by rw [← HW.out.kj]; exact hlt
     rw [map_getD _ _ hl0] at ht0; rw [map_getD _ _ (by omega)] at ht1
     obtain ⟨v, ev⟩ : ∃ v, v = cmpC (itC (compB fI ib)[r]) (itC (compB fI ib)[r + 1]) := ⟨_, rfl⟩
     have hv : v < 0 := by rw [ev]; exact HW.out.sb.asc1 r hl0
     have HCW : Hid (∀ W, Below w.heap.size w W → Calls Tryz.prog 7 #[.slice q1 k1' c1', .slice q0 k0 c0] W fun e w' => e = .returned (.tuple #[.int .i64 v, .int .i64 0]) ∧ Below W.heap.size W w') := fun W hW => HW.out.cmp _ _ (HW.out.sb.mem1 _ (List.getElem_mem (by omega))) (HW.out.sb.mem1 _ (List.getElem_mem hl0)) v ev (ht1.below hW) (ht0.below hW)
     have HC1 : Hid (∀ W, Below w.heap.size w W → W.cell? ⟨gJ, oJ + r, none⟩ = some (.slice q1 k1' c1') ∧ W.cell? ⟨gJ, oJ + (r + 1), none⟩ = some (.slice q0 k0 c0)) := fun W hW => ⟨(hW.cell (World.block_lt_of_cell? _ _ hc1)).trans hc1, (hW.cell (World.block_lt_of_cell? _ _ hc0)).trans hc0⟩
     have hS := HC1.out wr HBR.out
     have p1 : (0 : Int) ≤ (r : Int) + 1 := by omega
     have p2 : (r : Int) + 1 < (k1 : Int) := by omega
     have p3 : (0 : Int) ≤ (r : Int) := by omega
     have p4 : (r : Int) < (k1 : Int) := by omega
     have p5 : IntKind.i64.wrap ((r : Int) + 1) = (r : Int) + 1 := by rw [IntKind.wrap_i64]; omega
     have p6 : IntKind.i64.wrap (r : Int) = (r : Int) := by rw [IntKind.wrap_i64]; omega
     have p7 : ((r : Int) + 1).toNat = r + 1 := by omega
     have hvg : ¬ (0 : Int) ≤ v := by omega
     clear ev hc0 hc1 ht0 ht1 hl0; go_wp2_with fail
     go_region_held3 (fun W => W.cell? ⟨gJ, oJ + r, none⟩ = some (.slice q1 k1' c1') ∧ W.cell? ⟨gJ, oJ + (r + 1), none⟩ = some (.slice q0 k0 c0)) (first | exact kk | exact hS | go_keep)
      ((go_at_call 7; refine Calls.mono (HCW.out _ (HBR.out.drew)) ?_; rintro e w31 ⟨rfl, hb31⟩; have HB31 : Hid (Below w.heap.size w w31) := Below.on HBR.out.drew hb31; have kk := HC1.out w31 HB31.out; clear hb31))
     rename_i hheld
     clear hheld kk hS HCW HC1; go_wp2_with fail; go_roundw
     case rel => exact ⟨r + 1, by omega, by first | rfl | go_num, HB31⟩
     case measure => first | (simp [intOf]; done) | (simp [intOf]; omega)
    ·obtain rfl : k1 = r + 1 := by omega
     have HFIN : Hid (Below w0.heap.size w0 wr) := Below.on HW.out.low HBR.out; go_wp2_with fail; go_ret; exact ⟨rfl, HFIN.out⟩
end
end Go.Proofs.YtdmmchoicngblaaGreatDoor
