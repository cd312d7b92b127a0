/- l2items and ListItems of the specification. Own work of the verifier. -/
import Derived.Test.YtopdhjnpcpkmlaaItems3
namespace Go.Proofs.Ytopdhjnpcpkmlaa
open Go Go.RowKit
set_option linter.unusedVariables false

/-- A part of a slice of cells. -/
theorem CIn.part {w : World} {b o : Nat} {cs a m r : List Cel} (h : CIn w (some ⟨b, o, none⟩) cs) (e : cs = a ++ (m ++ r)) : CIn w (some ⟨b, o + a.length * 3, none⟩) m := fun hm => by
  obtain ⟨b', o', e', hc⟩ := h (by rw [e]; simp; omega)
  cases e'
  refine ⟨b, o + a.length * 3, rfl, fun i hi => ?_⟩
  have := hc (a.length + i) (by rw [e]; simp; omega)
  rw [show o + (a.length + i) * 3 = o + a.length * 3 + i * 3 by omega] at this
  have e2 : cs.getD (a.length + i) Cel.none = m.getD i Cel.none := by
    rw [e, List.getD, List.getElem?_append_right (by omega), show a.length + i - a.length = i by omega, List.getElem?_append_left hi, List.getD]
  rwa [e2] at this

/-- The values of slices that lie so. -/
def ItV (w : World) (its : List (Cel × Fo)) (us : List Value) : Prop := us.length = its.length ∧ ∀ i (h : i < its.length), ∃ q c, us[i]? = some (.slice q (itC its[i]).length c) ∧ CIn w q (itC its[i])
theorem ItV.snoc {w : World} {its : List (Cel × Fo)} {us : List Value} (h : ItV w its us) (x : Cel × Fo) (q : Option Addr) (c : Nat) (hq : CIn w q (itC x)) : ItV w (its ++ [x]) (us ++ [.slice q (itC x).length c]) := by
  refine ⟨by simp [h.1], fun i hi => ?_⟩
  by_cases e : i < its.length
  · obtain ⟨q', c', h1, h2⟩ := h.2 i e
    refine ⟨q', c', ?_, ?_⟩
    · rw [List.getElem?_append_left (by rw [h.1]; exact e), h1, List.getElem_append_left e]
    · rw [List.getElem_append_left e]; exact h2
  · have e' : i = its.length := by simp at hi; omega
    subst e'
    refine ⟨q, c, ?_, ?_⟩
    · rw [List.getElem?_append_right (by rw [h.1]; exact Nat.le_refl _), h.1]; simp
    · simpa using hq

theorem one_slice (q : Option Addr) (m c : Nat) : ∀ u ∈ [Value.slice q m c], u.oneCell' = true := fun u hu => by simp at hu; rw [hu]; rfl
/-- What l2items answers. -/
def L2Out (w : World) (c : Cel) (k : Fo) (e : Ending) (w' : World) : Prop :=
  ∃ p n cp q m cq us, e = .returned (.tuple #[.slice p n cp, .slice q m cq]) ∧ n = (splitF c k).1.length ∧ m = (itC (splitF c k).2).length ∧ w'.ownsRow w.heap.size 25 1 (.slice p n cp) n us ∧ ItV w (splitF c k).1 us ∧ CIn w q (itC (splitF c k).2) ∧
    (itsF (splitF c k).1).ok ∧ (Fo.node (splitF c k).2.1 (splitF c k).2.2 .nil).ok ∧ Below w.heap.size w w'

set_option maxRecDepth 100000 in
set_option maxHeartbeats 1000000 in
theorem l2items_any (c : Cel) (k : Fo) (p : Option Addr) (n cap : Nat) (w : World) (hok : (Fo.node c k .nil).ok) (hn : n = k.cells.length + 1) (hl : n ≤ 2000) (hc : n ≤ cap) (hm : cap ≤ 1000000000) (hin : CIn w p (c :: k.cells)) :
    Calls Try.prog 52 #[.slice p n cap] w (L2Out w c k) := by
  have HIN : Hid (CIn w p (c :: k.cells)) := hin
  have HOK : Hid (Fo.node c k .nil).ok := hok
  have HN : Hid (n = k.cells.length + 1) := hn
  clear hin hok hn
  obtain ⟨i0, hi, hz0, hz1, hz2⟩ := info_parts infoCells
  go_enter Try.func52, Try.ntmps52
  go_wp2_with fail
  go_loopw [0, 4] (fun t s wr => ∃ (its : List (Cel × Fo)) (c' : Cel) (k' : Fo) (us : List Value) (p' : Option Addr) (n' cap' : Nat) (p4 : Option Addr) (n4 c4 : Nat), n' ≤ 2000 ∧ n4 ≤ 2000 ∧ n4 + n' ≤ 2000 ∧ n' ≤ cap' ∧ cap' ≤ 1000000000 ∧ t = .slice p' n' cap' ∧ s = .slice p4 n4 c4 ∧ Hid (splitF c k = (its ++ (splitF c' k').1, (splitF c' k').2) ∧ n4 = its.length ∧ n' = k'.cells.length + 1) ∧
    Hid (CIn w p' (c' :: k'.cells)) ∧ Hid ((Fo.node c' k' .nil).ok ∧ (itsF its).ok) ∧ Hid (ItV w its us) ∧ Hid (wr.ownsRow w.heap.size 25 1 (.slice p4 n4 c4) n4 us) ∧ Hid (Below w.heap.size w wr)) (fun t _ _ => lenOf t)
  case atStart => exact ⟨[], c, k, [], p, n, cap, none, 0, 0, hl, by decide, by omega, hc, hm, rfl, rfl, ⟨rfl, rfl, HN.out⟩, HIN, ⟨HOK.out, trivial⟩, ⟨rfl, fun i h => by simp at h⟩, World.ownsRow_nil _ _ _ _, Below.refl _ _⟩
  case round =>
    obtain ⟨its, c', k', us, p', n', cap', p4, n4, c4, hn', hn4, hsum, hcap', hcm', rfl, rfl, HF, HC, HO, HI, HR, HB⟩ := hrel
    have HDOT := isDot_any c' k'.cells p' n' cap' wr HO.out.1.2.1 HF.out.2.2 (HC.out.below HB.out)
    by_cases hd : c' = dot
    · have hdt : decide (c' = dot) = true := by simpa using hd
      rw [hdt] at HDOT
      clear hdt
      have hcn := HO.out.1.2.2.1 (by rw [hd]; rfl)
      have hc2 : c'.2.1 = 2 := by rw [hd]; rfl
      obtain ⟨c1, k1, c2, k2, rfl⟩ := two_of (k := k') (by omega)
      clear hc2
      have hokk := HO.out.1.2.2.2.2.1
      have hlen : n' = (k1.cells.length + 1) + (k2.cells.length + 1) + 1 := by have := HF.out.2.2; simp [Fo.cells] at this; omega
      have HNX := next_any (c' :: (Fo.node c1 k1 (.node c2 k2 .nil)).cells) p' n' cap' 1 c1 k1 (c2 :: k2.cells) wr (by have := HF.out.2.2; simp; omega) hn' ⟨hokk.1, hokk.2.1, hokk.2.2.1, hokk.2.2.2.1, hokk.2.2.2.2.1, trivial⟩ (by simp [Fo.cells]) (HC.out.below HB.out)
      obtain ⟨b, o, rfl, hcells⟩ := HC.out (by simp)
      have hC1 : CIn w (some ⟨b, o + 3, none⟩) (itC (c1, k1)) := by
        have := CIn.part (a := [c']) (m := itC (c1, k1)) (r := c2 :: k2.cells) HC.out (by simp [Fo.cells, itC])
        simpa using this
      have hC2 : CIn w (some ⟨b, o + (1 + 1 + k1.cells.length) * 3, none⟩) (c2 :: k2.cells) := by
        have := CIn.part (a := c' :: itC (c1, k1)) (m := c2 :: k2.cells) (r := []) HC.out (by simp [Fo.cells, itC])
        simp only [itC, List.length_cons] at this
        rwa [show k1.cells.length + 1 + 1 = 1 + 1 + k1.cells.length by omega] at this
      obtain ⟨en, een⟩ : ∃ en, en = 1 + 1 + k1.cells.length := ⟨_, rfl⟩
      rw [← een] at HNX hC2
      have hen : en + (k2.cells.length + 1) = n' := by omega
      have HNEXT : Hid (splitF c k = ((its ++ [(c1, k1)]) ++ (splitF c2 k2).1, (splitF c2 k2).2) ∧ n4 + 1 = (its ++ [(c1, k1)]).length ∧ n' - en = k2.cells.length + 1 ∧ (itC (c1, k1)).length = en - 1) := ⟨by rw [HF.out.1, hd, splitF_dot]; simp, by simp [HF.out.2.1], by omega, by simp [itC]; omega⟩
      have HOK2 : Hid ((Fo.node c2 k2 .nil).ok ∧ (itsF (its ++ [(c1, k1)])).ok) := ⟨hokk.2.2.2.2.2, by rw [itsF_snoc, Fo.ok_cat]; exact ⟨HO.out.2, hokk.1, hokk.2.1, hokk.2.2.1, hokk.2.2.2.1, hokk.2.2.2.2.1, trivial⟩⟩
      have HITV : Hid (ItV w (its ++ [(c1, k1)]) (us ++ [.slice (some ⟨b, o + 3, none⟩) (en - 1) (cap' - 1)])) := by
        have := HI.out.snoc (c1, k1) (some ⟨b, o + 3, none⟩) (cap' - 1) hC1
        rwa [HNEXT.out.2.2.2] at this
      have HC2 : Hid (CIn w (some ⟨b, o + en * 3, none⟩) (c2 :: k2.cells)) := hC2
      have q1 : ¬ cap' = 1 := by omega
      have q2 : ¬ cap' = en := by omega
      have q3 : (1 : Int) ≤ en := by omega
      have q4 : (en : Int) ≤ n' := by omega
      have q5 : (en : Int) ≤ cap' := by omega
      have q6 : n' - en < n' := by omega
      have q7 : n' - en ≤ cap' - en := by omega
      have q8 : 1 ≤ en := by omega
      have HRW : Hid (wr.ownsRow w.heap.size 25 1 (.slice p4 n4 c4) n4 us) := HR.out
      have hBs : w.heap.size ≤ wr.heap.size := HB.out.size
      have hlt : n4 + 1 ≤ 2000 := by omega
      clear hcells hC1 hC2 hokk hcn HF HC HO HI HR hd een hen hlen
      go_wp2_with fail
      refine HDOT.mono ?_
      rintro e w2 ⟨rfl, hw2⟩
      subst hw2
      go_wp2_with fail
      refine HNX.mono ?_
      rintro e w3 ⟨rfl, hw3⟩
      subst hw3
      go_wp2_with (at_builtin; refine wpList_append_lies _ rfl _ _ 42 rfl w.heap.size 25 i0 (.slice none 0 0) 1 24 Try.underlying42 hi hz0 hz1 hz2 rfl (by decide) (.slice p4 n4 c4) n4 us rfl (HRW.out.alloc _) ⟨w3.heap.size, 0, none⟩ 1 1 [.slice (some ⟨b, o + 3, none⟩) (en - 1) (cap' - 1)] rfl rfl (cell_one_new _ _ _) (one_slice _ _ _) (by decide) (by unfold maxLen; omega) (by omega) (by simp; omega) _ rfl ?_; intro g5 cap5 w5 hown5 hgrow5 hat5 hlt5)
      have HO5 : Hid (w5.ownsRow w.heap.size 25 1 (.slice (some ⟨g5, 0, none⟩) (n4 + 1) cap5) (n4 + 1) (us ++ [.slice (some ⟨b, o + 3, none⟩) (en - 1) (cap' - 1)])) := hown5
      have HB5 : Hid (Below w.heap.size w w5) := (HB.out.alloc hBs _).trans ((Below.refl _ _).grown hgrow5 (by simp; omega) (fun k hk => (HRW.out.lt k hk).1))
      clear hown5 hgrow5 hat5
      go_roundw
      case rel => exact ⟨its ++ [(c1, k1)], c2, k2, _, _, n' - en, cap' - en, _, n4 + 1, cap5, by omega, by omega, by omega, by omega, by omega, rfl, rfl, ⟨HNEXT.out.1, HNEXT.out.2.1, HNEXT.out.2.2.1⟩, HC2, HOK2, HITV, HO5, HB5⟩
      case measure => simp [lenOf]; omega
    · have hdf : decide (c' = dot) = false := by simpa using hd
      rw [hdf] at HDOT
      have HL : Hid (L2Out w c k (.returned (.tuple #[.slice p4 n4 c4, .slice p' n' cap'])) wr) := by
        have h1 := HF.out.1
        rw [splitF_other c' k' hd, List.append_nil] at h1
        refine ⟨p4, n4, c4, p', n', cap', us, rfl, by rw [h1]; exact HF.out.2.1, by rw [h1]; simp [itC]; exact HF.out.2.2, HR.out, by rw [h1]; exact HI.out, by rw [h1]; exact HC.out, by rw [h1]; exact HO.out.2, by rw [h1]; exact HO.out.1, HB.out⟩
      clear hdf hd HF HC HO HI HR
      go_wp2_with fail
      refine HDOT.mono ?_
      rintro e w2 ⟨rfl, rfl⟩
      go_wp2_with fail
      go_ret2
      exact HL.out

/-- An item's letters. -/
theorem split_tl : ∀ (N : Nat) (c : Cel) (k : Fo), k.cells.length ≤ N → tll ((splitF c k).1.map itC) ≤ k.cells.length + 1 + tl (c :: k.cells)
  | N, c, .nil, _ => by simp [splitF, tll]
  | N, c, .node c1 k1 .nil, _ => by simp [splitF, tll]
  | N, c, .node c1 k1 (.node c2 k2 (.node a b d)), _ => by simp [splitF, tll]
  | 0, c, .node c1 k1 (.node c2 k2 .nil), h => by simp [Fo.cells] at h
  | N + 1, c, .node c1 k1 (.node c2 k2 .nil), h => by
    by_cases e : c = dot
    · subst e
      have ih := split_tl N c2 k2 (by simp [Fo.cells] at h; omega)
      rw [splitF_dot]
      have ha : ∀ a b : List Cel, tl (a ++ b) = tl a + tl b := fun a b => by
        induction a with
        | nil => simp [tl]
        | cons x r ih => simp only [List.cons_append, tl, ih]; omega
      simp only [List.map_cons, tll, itC, List.length_cons, Fo.cells, List.length_append, List.length_nil, tl, ha] at ih ⊢
      omega
    · rw [splitF_other _ _ e]
      simp [tll]

set_option maxRecDepth 100000 in
set_option maxHeartbeats 1000000 in
theorem specItems_any (cs : List Cel) (p : Option Addr) (n cap : Nat) (c : Cel) (k : Fo) (w : World) (hok : (Fo.node c k .nil).ok) (hcs : cs = c :: k.cells) (hlen : cs.length ≤ 2000) (hvl : validB cs = true) (htl : cs.length + tl cs ≤ 1048576) (hn : n = cs.length) (hc : n ≤ cap) (hm : cap ≤ 1000000000) (hin : CIn w p cs) :
    Calls Try.prog 31 #[.slice p n cap] w (ItemsOut w (itemsR c k).1 (itemsR c k).2) := by
  subst hn
  have HV := specValid_any p cap cs w (by omega) hin
  rw [hvl] at HV
  have HI : Hid (CIn w p cs) := hin
  have HOK : Hid ((Fo.node c k .nil).ok ∧ cs = c :: k.cells) := ⟨hok, hcs⟩
  have hkl : k.cells.length ≤ 10000 := by rw [hcs] at hlen; simp at hlen; omega
  have HSZ : Hid _ := split_size k.cells.length c k (Nat.le_refl _)
  have HTL : Hid (tll ((splitF c k).1.map itC) ≤ 2000000) := by
    have := split_tl k.cells.length c k (Nat.le_refl _)
    rw [hcs] at htl
    show _ ≤ _
    simp at htl
    omega
  clear hin hok hcs hvl htl
  go_enter Try.func31, Try.ntmps31
  go_wp2_with fail
  refine HV.mono ?_
  rintro e w1 ⟨rfl, hb1⟩
  have HB1 : Hid (Below w.heap.size w w1) := hb1
  have HT := l2items_any c k p cs.length cap w1 HOK.out.1 (by rw [HOK.out.2]; simp) hlen hc hm (by rw [← HOK.out.2]; exact HI.out.below hb1)
  clear hb1 HV
  go_wp2_with fail
  refine HT.mono ?_
  rintro e w3 ⟨ps, ns, cps, q, m, cq, us, rfl, hns, hmm, hrow, hits, hend, hoki, hoke, hb3⟩
  have HNIL := isNil_any (splitF c k).2.1 (splitF c k).2.2.cells q m cq w3 hoke.2.1 hoke.1 (by rw [hmm]; simp [itC]) (hend.below hb3)
  have HB3 : Hid (Below w.heap.size w w3) := Below.on HB1.out hb3
  have HW3 : Hid (Below w1.heap.size w1 w3) := hb3
  have HITS : Hid (ItV w1 (splitF c k).1 us) := hits
  have HNS : Hid (ns = (splitF c k).1.length) := hns
  have HROW : Hid (w3.ownsRow w1.heap.size 25 1 (.slice ps ns cps) ns us) := hrow
  have hnsb : ns ≤ 2000 := by
    have h1 := HSZ.out.1
    have h2 : ∀ l : List (Cel × Fo), l.length ≤ (l.map (fun x => (itC x).length)).sum := fun l => by
      induction l with
      | nil => simp
      | cons a r ih => simp only [List.map_cons, List.sum_cons, List.length_cons, itC]; simp only [itC, List.length_cons] at ih; omega
    have h3 := h2 (splitF c k).1
    have h4 := HOK.out.2
    rw [h4] at hlen
    simp at hlen
    omega
  have hBs : w.heap.size ≤ w3.heap.size := HB3.out.size
  clear hb3 hits hend hoki hoke hns hrow HT hmm
  by_cases he : (splitF c k).2.1 = nilC
  · have hdt : decide ((splitF c k).2.1 = nilC) = true := by simpa using he
    rw [hdt] at HNIL
    have HR : Hid (itemsR c k = ((splitF c k).1.map itC, 0)) := by show _ = _; rw [itemsR, if_pos he]
    clear hdt he
    go_wp2_with fail
    refine HNIL.mono ?_
    rintro e w4 ⟨rfl, hw4⟩
    subst hw4
    go_wp2_with fail
    go_loopw [6, 7] (fun s i wr => ∃ (j : Nat) (p4 : Option Addr) (n4 c4 : Nat), j ≤ ns ∧ n4 = j ∧ i = .int .i64 j ∧ s = .slice p4 n4 c4 ∧ Hid (OwnCC wr w4.heap.size wr.heap.size p4 n4 c4 (((splitF c k).1.take j).map itC)) ∧ Hid (Below w4.heap.size w4 wr)) (fun _ i _ => ns - (intOf i).toNat)
    case atStart => exact ⟨0, none, 0, 0, Nat.zero_le _, rfl, rfl, rfl, OwnCC.nil _ _ _, Below.refl _ _⟩
    case round =>
      obtain ⟨j, p4, n4, c4, hj, rfl, rfl, rfl, HO, HB⟩ := hrel
      by_cases hlt : n4 < ns
      · have hjl : n4 < (splitF c k).1.length := by rw [← HNS.out]; exact hlt
        obtain ⟨g, cc, hv, hbg, hgs⟩ := HROW.out.form (by omega)
        simp only [Value.slice.injEq, true_and] at hv
        obtain ⟨rfl, rfl⟩ := hv
        obtain ⟨iq, ic, hx1, hx2⟩ := HITS.out.2 n4 hjl
        have d0 : wr.cell? ⟨g, n4, none⟩ = some (.slice iq (itC (splitF c k).1[n4]).length ic) := (HB.out.cell (p := ⟨g, n4, none⟩) hgs).trans ((HROW.out.cellAt n4 (by omega)).trans hx1)
        have hbnd : (itC (splitF c k).1[n4]).length + tl (itC (splitF c k).1[n4]) ≤ 2000000 := by
          have h1 := tll_at ((splitF c k).1.map itC) n4 (by simpa using hjl)
          have e1 : ((splitF c k).1.map itC).getD n4 [] = itC (splitF c k).1[n4] := by simp [List.getD, hjl]
          rw [e1] at h1
          have := HTL.out
          omega
        have HCO := l2copy_any iq (itC (splitF c k).1[n4]).length ic (itC (splitF c k).1[n4]) wr rfl (by omega) ((hx2.below HW3.out).below HB.out)
        have HX : Hid (((splitF c k).1.take n4).map itC ++ [itC (splitF c k).1[n4]] = ((splitF c k).1.take (n4 + 1)).map itC) := by
          show _ = _
          rw [List.take_succ_eq_append_getElem hjl, List.map_append]; rfl
        have hBw : w4.heap.size ≤ wr.heap.size := HB.out.size
        obtain ⟨il, eil⟩ : ∃ il, il = (itC (splitF c k).1[n4]).length := ⟨_, rfl⟩
        rw [← eil] at d0 HCO
        clear hx1 hx2 hbnd eil
        go_wp2_with fail
        refine HCO.mono ?_
        rintro e w5 ⟨q5, m5, c5, rfl, ho5, hb5⟩
        have HO5 : Hid (OwnC w5 wr.heap.size q5 m5 c5 (itC (splitF c k).1[n4])) := ho5
        have HB5 : Hid (Below wr.heap.size wr w5) := hb5
        clear ho5 hb5 HCO d0
        go_wp2_with (at_builtin; refine app_item wr w5 rfl _ _ rfl w4.heap.size p4 n4 c4 _ rfl HO.out HB5.out hBw q5 m5 c5 _ HO5.out rfl (by omega) ?_; intro g6 n6 cap6 w6 hown6 hb6 hn6)
        have HO6 : Hid (OwnCC w6 w4.heap.size w6.heap.size (some ⟨g6, 0, none⟩) n6 cap6 (((splitF c k).1.take (n4 + 1)).map itC)) := by rw [← HX.out]; exact hown6
        have HB6 : Hid (Below w4.heap.size w4 w6) := (Below.on HB.out (HB5.out.alloc HB5.out.size _)).trans hb6
        have HN6 : Hid (n6 = n4 + 1) := hn6.out
        clear hown6 hb6 hn6
        go_roundw
        case rel => exact ⟨n4 + 1, _, _, _, by omega, HN6.out, by go_num, rfl, HO6, HB6⟩
        case measure => simp [intOf]; omega
      · obtain rfl : n4 = ns := by omega
        have HFIN : Hid (ItemsOut w (itemsR c k).1 (itemsR c k).2 (.returned (.tuple #[.slice p4 n4 c4, .int .i64 0])) wr) := by
          rw [HR.out]
          refine ⟨_, _, _, rfl, ?_, HB3.out.trans (HB.out.mono hBs)⟩
          have := HO.out.down hBs
          rwa [List.take_of_length_le (by rw [← HNS.out]; exact Nat.le_refl _)] at this
        go_wp2_with fail
        go_ret2
        exact HFIN.out
  · have hdf : decide ((splitF c k).2.1 = nilC) = false := by simpa using he
    rw [hdf] at HNIL
    have HFIN : Hid (ItemsOut w (itemsR c k).1 (itemsR c k).2 (.returned (.tuple #[.slice none 0 0, .int .i64 4])) w3) := by
      show ItemsOut _ _ _ _ _
      rw [itemsR, if_neg he]
      exact ⟨_, _, _, rfl, OwnCC.nil _ _ _, HB3.out⟩
    clear hdf he
    go_wp2_with fail
    refine HNIL.mono ?_
    rintro e w4 ⟨rfl, hw4⟩
    subst hw4
    go_wp2_with fail
    go_ret2
    exact HFIN.out

end Go.Proofs.Ytopdhjnpcpkmlaa
