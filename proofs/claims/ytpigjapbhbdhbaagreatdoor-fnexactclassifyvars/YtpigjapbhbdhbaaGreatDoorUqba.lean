/- Texts of ClV, ClZB, LawCl, ProofCells. Own work of the verifier. -/
import Derived.Test.YtpigjapbhbdhbaaGreatDoorUqaz
import Derived.Test.YtpigjapbhbdhbaaGreatDoorUqav
import Derived.Test.YtpigjapbhbdhbaaGreatDoorUqam
import Derived.Test.YtpigjapbhbdhbaaGreatDoorUqae
import Derived.Test.YtpigjapbhbdhbaaGreatDoorUqaj
import Derived.Test.YtpigjapbhbdhbaaGreatDoorRows
import Derived.ProofKit
import Derived.OpenShut
import Derived.Carry
import Derived.WalkSmall
import Derived.Deep.Slices
import Derived.Deep.Strs
namespace Go.Proofs.YtpigjapbhbdhbaaGreatDoor
open Go Go.RowKit
set_option linter.unusedVariables false
theorem Fo.bounds : ∀ F : Fo, F.ok → ∀ x ∈ F.cells, cellB x.1 x.2.1 x.2.2.length = true
  | .nil, _, x, hx => by simp [Fo.cells] at hx
  | .node c k r, h, x, hx => by
    simp only [Fo.cells, List.mem_cons, List.mem_append] at hx
    rcases hx with rfl | hx | hx
    · exact h.1
    · exact Fo.bounds k h.2.2.2.2.1 x hx
    · exact Fo.bounds r h.2.2.2.2.2 x hx
theorem okV_pos : ∀ (vs : List Int) (m : Nat), okV m vs → ∀ v ∈ vs, 0 ≤ v
  | [], _, _, v, hv => by cases hv
  | x :: r, m, h, v, hv => by
    rcases List.mem_cons.1 hv with rfl | hv
    · exact h.1.1
    · exact okV_pos r _ h.2 v hv
theorem vsG_mem : ∀ (gs : List Tr) (g : Tr), g ∈ gs → ∀ v ∈ vsC (g.1 :: g.2.cells), v ∈ vsG gs
  | [], g, h, _, _ => by cases h
  | x :: r, g, h, v, hv => by
    show v ∈ vsC (x.1 :: x.2.cells) ++ vsG r
    rcases List.mem_cons.1 h with rfl | h
    · exact List.mem_append.2 (.inl hv)
    · exact List.mem_append.2 (.inr (vsG_mem r g h v hv))
theorem vsC_mem {cs : List Cel} {c : Cel} (h : c ∈ cs) (h0 : c.1 = 0) : c.2.1 ∈ vsC cs := List.mem_map.2 ⟨c, List.mem_filter.2 ⟨h, decide_eq_true h0⟩, rfl⟩
theorem vs_parts {t : Tr} (h2 : t.2.count = 2) (hr : t.1 = ruleC) (hb : (kid1 t).1 = trueC → (kid1 t).2.cells = []) : vsC (t.1 :: t.2.cells) = vsC ((kid0 t).1 :: (kid0 t).2.cells) ++ vsG (goalsT (kid1 t)) := by
  rw [two_kidsC h2, hr, vsC_cons, if_neg (by decide), vsC_append]
  congr 1
  unfold goalsT
  by_cases ht : (kid1 t).1 = trueC
  · rw [if_pos ht, hb ht, ht]; rfl
  · rw [if_neg ht, vsG_conj _ _ _ (Nat.le_refl _)]
theorem flat_parts {c : Cel} {k : Fo} (hok : (Fo.node c k .nil).ok) (hf : flatB (c, k) = true) : c = ruleC ∧ renCells (c :: k.cells) = c :: k.cells ∧ k.count = 2 ∧ calC (kid0 (c, k)).1 = true ∧ (∀ g ∈ goalsT (kid1 (c, k)), goodG g = true) ∧ (Fo.node (kid0 (c, k)).1 (kid0 (c, k)).2 .nil).ok ∧ (Fo.node (kid1 (c, k)).1 (kid1 (c, k)).2 .nil).ok ∧ (kid0 (c, k)).2.cells.length + (kid1 (c, k)).2.cells.length + 2 = k.cells.length ∧ ((kid1 (c, k)).1 = trueC → (kid1 (c, k)).2.cells = []) := by
  unfold flatB at hf
  simp only [Bool.and_eq_true, decide_eq_true_eq] at hf
  obtain ⟨h1, h2, h3, h4⟩ := hf
  have h9 := hok.2.2.1 (by rw [h1]; rfl)
  have hcnt : k.count = 2 := by
    rw [h1] at h9
    have e2 : (ruleC.2.1 : Int) = 2 := rfl
    omega
  obtain ⟨c1, k1, c2, k2, ek⟩ := two_of hcnt
  have hk := hok.2.2.2.2.1
  rw [ek] at hk
  have e0 : kid0 (c, k) = (c1, k1) := by unfold kid0; rw [ek]; rfl
  have e1 : kid1 (c, k) = (c2, k2) := by unfold kid1; rw [ek]; rfl
  have o2 : (Fo.node c2 k2 .nil).ok := hk.2.2.2.2.2
  rw [e0] at h3
  rw [e1] at h4
  refine ⟨h1, h2, hcnt, by rw [e0]; exact h3, by rw [e1]; exact List.all_eq_true.1 h4, by rw [e0]; exact ⟨hk.1, hk.2.1, hk.2.2.1, hk.2.2.2.1, hk.2.2.2.2.1, trivial⟩, by rw [e1]; exact o2, by rw [e0, e1, ek]; simp [Fo.cells]; omega, fun ht => ?_⟩
  rw [e1] at ht ⊢
  have : k2 = .nil := o2.2.2.2.1 (by show c2.1 ≠ 3; rw [show c2 = trueC from ht]; decide)
  show k2.cells = []
  rw [this]; rfl
def ClO2 (cs : List Cel) (w : World) (e : Ending) (w' : World) : Prop :=
  ∃ q m c2, Below w.heap.size w w' ∧
    ((e = .returned (.tuple #[.slice q m c2, .int .i64 1]) ∧ q = none ∧ m = 0 ∧ c2 = 0 ∧ ¬ (validB cs = true ∧ ∀ c k, cs = c :: k.cells → (Fo.node c k .nil).ok → flatB (c, k) = true)) ∨
     (e = .returned (.tuple #[.slice q m c2, .int .i64 0]) ∧ validB cs = true ∧ ∃ c k, cs = c :: k.cells ∧ (Fo.node c k .nil).ok ∧ flatB (c, k) = true ∧ OwnI w' w.heap.size 3 q m c2 (classP (c, k))))
set_option maxRecDepth 100000 in
set_option maxHeartbeats 1000000 in
theorem specCl_any (cs : List Cel) (p : Option Addr) (w : World) (hxb : ∀ i, i < cs.length → Byte (cs.getD i Cel.none).2.2) (hl : cs.length + tl cs ≤ 1048576) (hin : CIn w p cs) :
    Calls Tryz.prog 5 #[.slice p cs.length cs.length] w (ClO2 cs w) := by
  have HF := flat_any cs p w hxb hl hin
  have HIN : Hid (CIn w p cs) := hin
  have HCL : Hid (∀ W ph nh ch pg mg cg c k rs, Below w.heap.size w W → cs = c :: k.cells → (Fo.node c k .nil).ok → flatB (c, k) = true → cs.length ≤ 2000 → TI W ph nh ch (kid0 (c, k)) → mg = (goalsT (kid1 (c, k))).length → W.ownsRow w.heap.size 27 1 (.slice pg mg cg) mg (rs.map slV) → ArgRowU W rs (goalsT (kid1 (c, k))) →
      Calls Tryz.prog 15 #[.slice p cs.length cs.length, .slice ph nh ch, .slice pg mg cg] W fun e w' => ∃ q m c2, e = .returned (.slice q m c2) ∧ OwnI w' W.heap.size 3 q m c2 (classP (c, k)) ∧ Below W.heap.size W w') := fun W ph nh ch pg mg cg c k rs hW e hok hf hlen hti hmg hrow harg => by
    obtain ⟨f1, f2, f3, f4, f5, f6, f7, f8, f9⟩ := flat_parts hok hf
    have hren : renCells cs = cs := by rw [e]; exact f2
    have hlc : k.cells.length + 1 = cs.length := by rw [e]; simp
    have hgok : ∀ g ∈ goalsT (kid1 (c, k)), (Fo.node g.1 g.2 .nil).ok ∧ calC g.1 = true ∧ g.2.cells.length ≤ 2000 := fun g hg => by
      have hgd := f5 g hg
      unfold goodG at hgd
      simp only [Bool.and_eq_true] at hgd
      unfold goalsT at hg
      split at hg
      · cases hg
      · refine ⟨conj_ok _ _ _ (Nat.le_refl _) f7 g hg, hgd.1, ?_⟩
        have := conj_size _ _ _ (Nat.le_refl _) g hg
        omega
    have hgl : (goalsT (kid1 (c, k))).length ≤ 2000 := by
      unfold goalsT
      split
      · simp
      · have := conj_len _ (kid1 (c, k)).1 (kid1 (c, k)).2 (Nat.le_refl _); omega
    have hvp := vs_parts (t := (c, k)) f3 f1 f9
    obtain ⟨s1, s2⟩ := own_seq hren
    have hcs : vsC cs = vsC ((kid0 (c, k)).1 :: (kid0 (c, k)).2.cells) ++ vsG (goalsT (kid1 (c, k))) := by rw [e]; exact hvp
    have hall : ∀ v ∈ vsC cs, 0 ≤ v ∧ v < ((visits [] cs).length : Int) := fun v hv => ⟨okV_pos _ 0 s1 v hv, by rw [← s2]; exact okV_lt _ 0 s1 v hv⟩
    have hvs : ∀ j, j < (goalsT (kid1 (c, k))).length + 1 → ∀ x ∈ (termAt (kid0 (c, k)) (goalsT (kid1 (c, k))) j).1 :: (termAt (kid0 (c, k)) (goalsT (kid1 (c, k))) j).2.cells, x.1 = 0 → 0 ≤ x.2.1 ∧ x.2.1 < ((visits [] cs).length : Nat) := fun j hj x hx h0 => by
      refine hall _ ?_
      rw [hcs]
      cases j with
      | zero => exact List.mem_append.2 (.inl (vsC_mem hx h0))
      | succ j =>
        have hj' : j < (goalsT (kid1 (c, k))).length := by omega
        have ej : termAt (kid0 (c, k)) (goalsT (kid1 (c, k))) (j + 1) = (goalsT (kid1 (c, k)))[j] := by show List.getD _ j _ = _; simp [List.getD, hj']
        rw [ej] at hx
        exact List.mem_append.2 (.inr (vsG_mem _ _ (List.getElem_mem hj') _ (vsC_mem hx h0)))
    have hvl := visits_len cs []
    have H := classesM_any cs (kid0 (c, k)) (goalsT (kid1 (c, k))) rs p ph pg cs.length nh ch mg cg w.heap.size (visits [] cs).length W hlen (by rw [e]; exact fun x hx => Fo.bounds (Fo.node c k .nil) hok x (by simpa [Fo.cells] using hx)) (HIN.out.below hW) (max_count hren) (by simp at hvl; omega) hti (by have := hti.1; omega) hmg (by omega) hrow harg hgok hvs
    have hcm : endM (goalsM 0 (meetsM 0 (List.replicate (visits [] cs).length 0, List.replicate (visits [] cs).length 0, List.replicate (visits [] cs).length 0) (vsC ((kid0 (c, k)).1 :: (kid0 (c, k)).2.cells))) (goalsT (kid1 (c, k)))) = classP (c, k) := by
      have h9 := class_same (t := (c, k)) f3 f1 f2 f9
      rw [← h9]
      show _ = classM (visits [] (c :: k.cells)).length (c, k)
      rw [← e]; rfl
    rw [hcm] at H
    exact H
  obtain ⟨m, em⟩ : ∃ m, m = cs.length := ⟨_, rfl⟩
  have hm : m ≤ 1048576 := by omega
  have HEM : Hid (m = cs.length) := em
  rw [← em] at HF HCL ⊢
  clear hxb hl hin em
  go_enter Tryz.func5, Tryz.ntmps5
  go_wp2_with fail
  refine HF.mono ?_
  rintro e w1 ⟨ph, nh, ch, pg, mg, cg, hb1, h | h⟩
  · obtain ⟨rfl, hno⟩ := h
    have HO : Hid (ClO2 cs w (.returned (.tuple #[.slice none 0 0, .int .i64 1])) w1) := ⟨none, 0, 0, hb1, .inl ⟨rfl, rfl, rfl, rfl, hno⟩⟩
    clear hno hb1 HF HCL HIN
    go_wp2_with fail
    exact bodyPost_ret (v := .tuple #[.slice none 0 0, .int .i64 1]) (by simp [results, Tryz.results5, go_sem]) rfl HO.out
  · obtain ⟨rfl, hv, c, k, rs, h1, h2, h3, h4, h5, h6, h7, h8⟩ := h
    have HC := HCL.out w1 ph nh ch pg mg cg c k rs hb1 h1 h2 h3 (by rw [HEM.out]; exact h4) h5 h6 h7 h8
    have HFIN : Hid (∀ q m2 c2 W, OwnI W w1.heap.size 3 q m2 c2 (classP (c, k)) → Below w1.heap.size w1 W → ClO2 cs w (.returned (.tuple #[.slice q m2 c2, .int .i64 0])) W) := fun q m2 c2 W hO hb => ⟨q, m2, c2, Below.on hb1 hb, .inr ⟨rfl, hv, c, k, h1, h2, h3, hO.mono hb1.size⟩⟩
    clear h1 h2 h3 h4 h5 h6 h7 h8 hv hb1 HF HCL HIN
    go_wp2_with fail
    refine HC.mono ?_
    rintro e w2 ⟨q, m2, c2, rfl, hO, hb2⟩
    have HO : Hid _ := HFIN.out q m2 c2 w2 hO hb2
    clear hO hb2 HFIN HC
    go_wp2_with fail
    exact bodyPost_ret (v := .tuple #[.slice q m2 c2, .int .i64 0]) (by simp [results, Tryz.results5, go_sem]) rfl HO.out
end Go.Proofs.YtpigjapbhbdhbaaGreatDoor

namespace Go.Proofs.YtpigjapbhbdhbaaGreatDoor
open Go Go.RowKit Go.Maps
set_option linter.unusedVariables false
set_option maxRecDepth 100000 in
set_option maxHeartbeats 1000000 in
theorem implCl_any (cs : List Cel) (p : Option Addr) (w : World) (hxb : ∀ i, i < cs.length → Byte (cs.getD i Cel.none).2.2) (hl : cs.length ≤ 1000000000) (hin : CIn w p cs) :
    Calls Tryz.prog 7 #[.slice p cs.length cs.length] w (ClO2 cs w) := by
  have HIN : Hid (CIn w p cs) := hin
  have HFC : Hid (∀ W mb, Below w.heap.size w W → BuIn W mb 92 buTab → Calls Tryz.prog 18 #[.map (some mb), .slice p cs.length cs.length] W (FcOut W cs)) := fun W mb hW hM => fc_any cs p mb W hxb hl (HIN.out.below hW) hM
  obtain ⟨m, em⟩ : ∃ m, m = cs.length := ⟨_, rfl⟩
  have hm : m ≤ 1000000000 := by omega
  rw [← em] at HFC ⊢
  clear hxb hl hin em HIN
  have HNB := newBuiltins_any w
  go_enter Tryz.func7, Tryz.ntmps7
  go_wp2_with fail
  refine HNB.mono ?_
  rintro e w1 ⟨mb, rfl, hM, hb1⟩
  have HF := HFC.out w1 mb hb1 hM
  have HB1 : Hid (Below w.heap.size w w1) := hb1
  clear HNB HFC hM hb1
  go_wp2_with fail
  refine HF.mono ?_
  rintro e w2 ⟨ha, p2, n2, cp2, hha, hb2, h | h⟩
  · obtain ⟨rfl, hno⟩ := h
    have HO : Hid (∀ o, ClO2 cs w (.returned (.tuple #[.slice none 0 0, .int .i64 1])) (w2.alloc o)) := fun o => ⟨none, 0, 0, (Below.on HB1.out hb2).alloc (Below.on HB1.out hb2).size _, .inl ⟨rfl, rfl, rfl, rfl, hno⟩⟩
    clear hno hb2 HF
    rcases hha with rfl | ⟨t, x, rfl⟩
    all_goals
      go_wp2_with fail
      exact bodyPost_ret (v := .tuple #[.slice none 0 0, .int .i64 1]) (by simp [results, Tryz.results7, go_sem]) rfl (HO.out _)
  · obtain ⟨rfl, hv, c, k, vs, h1, h2, h3, h4, h5, h6, h7, h8, h9, h10⟩ := h
    obtain ⟨t, x, rfl⟩ := h5.iface
    have hb20 : Below w.heap.size w w2 := Below.on HB1.out hb2
    have HCL : Hid (∀ W, Below w2.heap.size w2 W → Calls Tryz.prog 19 #[.agg #[.iface t x, .slice p2 n2 cp2]] W fun e w' => ∃ q m c2, e = .returned (.slice q m c2) ∧ OwnI w' W.heap.size 3 q m c2 (classP (c, k)) ∧ Below W.heap.size W w') := fun W hW => by
      obtain ⟨f1, f2, f3, f4, f5, f6, f7, f8, f9⟩ := flat_parts h2 h3
      have hvp := vs_parts (t := (c, k)) f3 f1 f9
      have hlc : k.cells.length + 1 = cs.length := by rw [h1]; simp
      have hren : renCells cs = cs := by rw [h1]; exact f2
      obtain ⟨s1, s2⟩ := own_seq hren
      have hcs : vsC cs = vsC ((kid0 (c, k)).1 :: (kid0 (c, k)).2.cells) ++ vsG (goalsT (kid1 (c, k))) := by rw [h1]; exact hvp
      rw [hcs] at s1 s2
      have hvl := visits_len cs []
      simp only [List.length_nil] at hvl
      have hgl : (goalsT (kid1 (c, k))).length ≤ 2001 := by
        unfold goalsT
        split
        · simp
        · have := conj_len _ (kid1 (c, k)).1 (kid1 (c, k)).2 (Nat.le_refl _); omega
      refine classes_any (kid0 (c, k)).1 (kid0 (c, k)).2 t x (goalsT (kid1 (c, k))) vs p2 n2 cp2 w1.heap.size W h6 (h5.below hW) h10 (h9.below hW) h7 (row_below h8 hW) s1 (by omega) (by omega) (fun g hg => ⟨?_, f5 g hg⟩) (by omega)
      unfold goalsT at hg
      split at hg
      · cases hg
      · have := conj_size _ _ _ (Nat.le_refl _) g hg
        omega
    have HFIN : Hid (∀ o q m c2 W, OwnI W (w2.alloc o).heap.size 3 q m c2 (classP (c, k)) → Below (w2.alloc o).heap.size (w2.alloc o) W → ClO2 cs w (.returned (.tuple #[.slice q m c2, .int .i64 0])) W) := fun o q m c2 W hO hb => by
      have hba := hb20.alloc hb20.size o
      exact ⟨q, m, c2, Below.on hba hb, .inr ⟨rfl, hv, c, k, h1, h2, h3, hO.mono hba.size⟩⟩
    have HC := HCL.out (w2.alloc (.cells #[.iface t x, .slice p2 n2 cp2] 48)) ((Below.refl _ _).alloc (Nat.le_refl _) _)
    clear hv h1 h2 h3 h4 h5 h6 h7 h8 h9 h10 hb2 hb20 hha HCL HF HB1
    go_wp2_with fail
    refine HC.mono ?_
    rintro e w3 ⟨q, m2, c2, rfl, hO, hb3⟩
    have HO : Hid _ := HFIN.out _ q m2 c2 w3 hO hb3
    clear hO hb3 HFIN HC
    go_wp2_with fail
    exact bodyPost_ret (v := .tuple #[.slice q m2 c2, .int .i64 0]) (by simp [results, Tryz.results7, go_sem]) rfl HO.out
end Go.Proofs.YtpigjapbhbdhbaaGreatDoor

namespace Go.Proofs.YtpigjapbhbdhbaaGreatDoor
open Go Go.RowKit
set_option linter.unusedVariables false
theorem below_drew_any {w : World} (k : Nat) : Below w.heap.size w (w.drewN k) := ⟨rfl, rfl, rfl, Nat.le_refl _, fun _ _ => rfl⟩
theorem OwnI.otherC {w w' : World} {B : Nat} {t : TypeId} {p : Option Addr} {n c : Nat} {zs : List Int} (h : OwnI w B t p n c zs) (hb : ∀ k, k < w.heap.size → B ≤ k → w'.heap[k]? = w.heap[k]?) : OwnI w' B t p n c zs := by
  refine ⟨h.1, h.2.1, ?_⟩
  rcases h.2.2 with h' | ⟨g, cap, cur, hv, hB, hg, r⟩
  · exact .inl h'
  · exact .inr ⟨g, cap, cur, hv, hB, (hb g (Array.getElem?_eq_some_iff.1 hg).1 hB).trans hg, r⟩
theorem endC_pos {k : Int} (h : 0 ≤ k) (cs : List Cel) : ¬ endC k cs < 0 := by simp only [endC, kAt]; omega
theorem goalsP_len : ∀ (gs : List Tr) (q : Int) (P : List Int × List Int), okV P.1.length (vsG gs) → (goalsP q P gs).1.length = endV P.1.length (vsG gs)
  | [], q, P, _ => rfl
  | g :: r, q, P, h => by
    rw [vsG, okV_append] at h
    show (goalsP _ (meetsP q P _) r).1.length = _
    rw [goalsP_len r _ _ (by rw [meets_len q _ P h.1]; exact h.2), meets_len q _ P h.1, vsG, endV_append]
theorem classP_len {c : Cel} {k : Fo} (hok : (Fo.node c k .nil).ok) (hf : flatB (c, k) = true) : (classP (c, k)).length ≤ k.cells.length + 1 := by
  obtain ⟨f1, f2, f3, f4, f5, f6, f7, f8, f9⟩ := flat_parts hok hf
  have hvp := vs_parts (t := (c, k)) f3 f1 f9
  obtain ⟨s1, s2⟩ := own_seq f2
  have hvp' : vsC (c :: k.cells) = vsC ((kid0 (c, k)).1 :: (kid0 (c, k)).2.cells) ++ vsG (goalsT (kid1 (c, k))) := hvp
  rw [hvp'] at s1 s2
  rw [okV_append] at s1
  rw [endV_append] at s2
  have hl := meets_len 0 (vsC ((kid0 (c, k)).1 :: (kid0 (c, k)).2.cells)) ([], []) s1.1
  have hvl := visits_len (c :: k.cells) []
  simp only [List.length_nil, List.length_cons] at hvl
  unfold classP
  rw [goalsP_len _ _ _ (by rw [hl]; exact s1.2), hl]
  have e0 : (([], []) : List Int × List Int).1.length = 0 := rfl
  rw [e0, s2]
  omega
theorem cl_both (cs : List Cel) (hxb : ∀ i, i < cs.length → Byte (cs.getD i Cel.none).2.2) (hl : cs.length + tl cs ≤ 1048576) : ∃ (zs : List Int) (cd : Int), zs.length ≤ 2000 ∧
    (∀ (p : Option Addr) (w : World), CIn w p cs → Calls Tryz.prog 5 #[.slice p cs.length cs.length] w fun e w' => ∃ q m c2, e = .returned (.tuple #[.slice q m c2, .int .i64 cd]) ∧ OwnI w' w.heap.size 3 q m c2 zs ∧ Below w.heap.size w w') ∧
    (∀ (p : Option Addr) (w : World), CIn w p cs → Calls Tryz.prog 7 #[.slice p cs.length cs.length] w fun e w' => ∃ q m c2, e = .returned (.tuple #[.slice q m c2, .int .i64 cd]) ∧ OwnI w' w.heap.size 3 q m c2 zs ∧ Below w.heap.size w w') := by
  by_cases hg : validB cs = true ∧ ∀ c k, cs = c :: k.cells → (Fo.node c k .nil).ok → flatB (c, k) = true
  · obtain ⟨c, k, ex, hok, hlx⟩ := tree_of hxb hg.1
    have hf := hg.2 c k ex hok
    have hlc : k.cells.length + 1 = cs.length := by rw [ex]; simp
    have cv : ∀ (w : World) e w', ClO2 cs w e w' → ∃ q m c2, e = .returned (.tuple #[.slice q m c2, .int .i64 0]) ∧ OwnI w' w.heap.size 3 q m c2 (classP (c, k)) ∧ Below w.heap.size w w' := fun w e w' h => by
      obtain ⟨q, m, c2, hb, h | h⟩ := h
      · exact absurd hg h.2.2.2.2
      · obtain ⟨he, _, c', k', e', ok', _, hO⟩ := h
        obtain ⟨rfl, rfl⟩ := tree_one (ex.symm.trans e') hok ok'
        exact ⟨q, m, c2, he, hO, hb⟩
    exact ⟨classP (c, k), 0, by have := classP_len hok hf; omega, fun p w h => (specCl_any cs p w hxb hl h).mono fun e w' h => cv w e w' h, fun p w h => (implCl_any cs p w hxb (by omega) h).mono fun e w' h => cv w e w' h⟩
  · have cv : ∀ (w : World) e w', ClO2 cs w e w' → ∃ q m c2, e = .returned (.tuple #[.slice q m c2, .int .i64 1]) ∧ OwnI w' w.heap.size 3 q m c2 [] ∧ Below w.heap.size w w' := fun w e w' h => by
      obtain ⟨q, m, c2, hb, h | h⟩ := h
      · obtain ⟨he, rfl, rfl, rfl, _⟩ := h
        exact ⟨none, 0, 0, he, ⟨rfl, World.ownsRow_nil _ _ _ _⟩, hb⟩
      · obtain ⟨_, hv, c', k', e', ok', hf', _⟩ := h
        refine absurd ⟨hv, fun c k ex hok => ?_⟩ hg
        obtain ⟨rfl, rfl⟩ := tree_one (ex.symm.trans e') hok ok'
        exact hf'
    exact ⟨[], 1, Nat.zero_le _, fun p w h => (specCl_any cs p w hxb hl h).mono fun e w' h => cv w e w' h, fun p w h => (implCl_any cs p w hxb (by omega) h).mono fun e w' h => cv w e w' h⟩
set_option maxRecDepth 100000 in
set_option maxHeartbeats 1000000 in
theorem lawCl_any (p : Option Addr) (cap : Nat) (cs : List Cel) (w : World) (hin : CArg w p cs) :
    Calls Tryz.prog 3 #[.slice p cs.length cap] w fun e w' => e = .returned (.bool true) ∧ Below w.heap.size w w' := by
  have HI : Hid (CArg w p cs) := hin
  have HS := szCellS_any p cap cs 1048576 w (Nat.le_refl _) hin.len hin.text hin.lies
  have HBY : Hid (∀ i, i < cs.length → Byte (cs.getD i Cel.none).2.2) := hin.byte
  clear hin
  by_cases hn : cs.length + tl cs ≤ 1048576
  · obtain ⟨r, er⟩ : ∃ r : Nat, szR 1048576 (cs.length + tl cs) = r := ⟨1048576 - (cs.length + tl cs), by rw [szR, if_pos hn]; omega⟩
    rw [er] at HS
    clear er
    obtain ⟨zs, cd, hzl, hsp, him⟩ := cl_both cs HBY.out hn
    have HZL : Hid (zs.length ≤ 2000) := hzl
    have HSP : Hid (∀ (p : Option Addr) (w : World), CIn w p cs → Calls Tryz.prog 5 #[.slice p cs.length cs.length] w fun e w' => ∃ q m c2, e = .returned (.tuple #[.slice q m c2, .int .i64 cd]) ∧ OwnI w' w.heap.size 3 q m c2 zs ∧ Below w.heap.size w w') := hsp
    have HIM : Hid (∀ (p : Option Addr) (w : World), CIn w p cs → Calls Tryz.prog 7 #[.slice p cs.length cs.length] w fun e w' => ∃ q m c2, e = .returned (.tuple #[.slice q m c2, .int .i64 cd]) ∧ OwnI w' w.heap.size 3 q m c2 zs ∧ Below w.heap.size w w') := him
    clear hzl hsp him HBY
    go_enter Tryz.func3, Tryz.ntmps3
    go_wp2_with fail
    refine HS.mono ?_
    rintro e w0 ⟨rfl, hb⟩
    have HA0 : Hid (Below w.heap.size w w0) := hb
    clear hb HS
    go_wp2_with fail
    refine (toCellS_any p cap cs w0 hn (HI.out.below HA0.out).lies).mono ?_
    rintro e w1 ⟨rfl, ho1, hb⟩
    have HC1 : Hid (CIn w1 (some ⟨w0.heap.size, 0, none⟩) cs) := ho1.cin
    have HA1 : Hid (Below w.heap.size w w1) := Below.on HA0.out hb
    clear ho1 hb
    go_wp2_with fail
    refine (HSP.out _ w1 HC1.out).mono ?_
    rintro e w2 ⟨p2, n2, c2, rfl, ho2, hb⟩
    have HZ2 : Hid (IIn w2 p2 zs ∧ n2 = zs.length) := ⟨ho2.iin, ho2.1⟩
    have HA2 : Hid (Below w.heap.size w w2) := Below.on HA1.out hb
    have hn2 : n2 ≤ 2000 := by have := HZ2.out.2; have := HZL.out; omega
    clear ho2 hb HC1
    go_wp2_with fail
    refine (toCellS_any p cap cs w2 hn (HI.out.below HA2.out).lies).mono ?_
    rintro e w3 ⟨rfl, ho3, hb⟩
    have HX3 : Hid (OwnCU w3 w2.heap.size w3.heap.size (some ⟨w2.heap.size, 0, none⟩) cs.length cs.length cs) := ho3.up
    have HA3 : Hid (Below w.heap.size w w3) := Below.on HA2.out hb
    have HB3 : Hid (Below w2.heap.size w2 w3) := hb
    clear ho3 hb
    go_wp2_with fail
    refine (HIM.out _ w3 HX3.out.toC.cin).mono ?_
    rintro e w4 ⟨p4, n4, c4, rfl, ho4, hb⟩
    have HG4 : Hid (OwnI w4 w3.heap.size 3 p4 n4 c4 zs) := ho4
    have HX4 : Hid (OwnCU w4 w2.heap.size w3.heap.size (some ⟨w2.heap.size, 0, none⟩) cs.length cs.length cs) := HX3.out.below hb
    have HA4 : Hid (Below w.heap.size w w4) := Below.on HA3.out hb
    have HB4 : Hid (Below w2.heap.size w2 w4) := Below.on HB3.out hb
    have HS4 : Hid (w3.heap.size ≤ w4.heap.size) := hb.size
    have hn4 : n4 ≤ 2000 := by have := ho4.1; have := HZL.out; omega
    clear ho4 hb HX3
    go_wp2_with fail
    refine (eqIntS_any p4 p2 n4 n2 c4 c2 zs w4 HG4.out.1 HZ2.out.2 (by omega) HG4.out.iin (HZ2.out.1.below HB4.out)).mono ?_
    rintro e w5 ⟨rfl, d5, hw5⟩
    have hb : Below w4.heap.size w4 w5 := by rw [hw5]; exact below_drew_any _
    have HG5 : Hid (OwnI w5 w3.heap.size 3 p4 n4 c4 zs) := HG4.out.below hb
    have HX5 : Hid (OwnCU w5 w2.heap.size w3.heap.size (some ⟨w2.heap.size, 0, none⟩) cs.length cs.length cs) := HX4.out.below hb
    have HA5 : Hid (Below w.heap.size w w5) := Below.on HA4.out hb
    have HB5 : Hid (Below w2.heap.size w2 w5) := Below.on HB4.out hb
    have HS5 : Hid (w3.heap.size ≤ w5.heap.size) := Nat.le_trans HS4.out hb.size
    clear hb hw5 HG4 HX4
    go_wp2_with fail
    refine (toCellS_any p cap cs w5 hn (HI.out.below HA5.out).lies).mono ?_
    rintro e w6 ⟨rfl, ho6, hb⟩
    have HC6 : Hid (CIn w6 (some ⟨w5.heap.size, 0, none⟩) cs) := ho6.cin
    have HG6 : Hid (OwnI w6 w3.heap.size 3 p4 n4 c4 zs) := HG5.out.below hb
    have HX6 : Hid (OwnCU w6 w2.heap.size w3.heap.size (some ⟨w2.heap.size, 0, none⟩) cs.length cs.length cs) := HX5.out.below hb
    have HA6 : Hid (Below w.heap.size w w6) := Below.on HA5.out hb
    have HB6 : Hid (Below w2.heap.size w2 w6) := Below.on HB5.out hb
    have HS6 : Hid (w3.heap.size ≤ w6.heap.size) := Nat.le_trans HS5.out hb.size
    clear ho6 hb HG5 HX5
    go_wp2_with fail
    refine (eqCellS_any _ _ _ _ cs cs w6 (by omega) (by omega) HX6.out.toC.cin HC6.out).mono ?_
    rintro e w7 ⟨rfl, hb⟩
    have HG7 : Hid (OwnI w7 w3.heap.size 3 p4 n4 c4 zs) := HG6.out.below hb
    have HX7 : Hid (OwnCU w7 w2.heap.size w3.heap.size (some ⟨w2.heap.size, 0, none⟩) cs.length cs.length cs) := HX6.out.below hb
    have HA7 : Hid (Below w.heap.size w w7) := Below.on HA6.out hb
    have HB7 : Hid (Below w2.heap.size w2 w7) := Below.on HB6.out hb
    have HS7 : Hid (w3.heap.size ≤ w7.heap.size) := Nat.le_trans HS6.out hb.size
    clear hb HG6 HX6 HC6
    have ht : decide (cs = cs) = true := by simp
    rw [ht]
    clear ht
    go_wp2_with fail
    refine (markCells_any w2.heap.size w3.heap.size _ _ _ 1 cs w7 (by decide) (by decide) (by omega) HX7.out).mono ?_
    rintro e w8 ⟨rfl, ho8, hk⟩
    have HG8 : Hid (OwnI w8 w3.heap.size 3 p4 n4 c4 zs) := HG7.out.otherC (fun k h1 h2 => hk.block k h1 (.inr h2))
    have HA8 : Hid (Below w.heap.size w w8) := HA7.out.trans (hk.below HA2.out.size HA7.out.size)
    have HB8 : Hid (Below w2.heap.size w2 w8) := HB7.out.trans (hk.below (Nat.le_refl _) HB7.out.size)
    have HS8 : Hid (w3.heap.size ≤ w8.heap.size) := Nat.le_trans HS7.out hk.size
    clear ho8 hk HG7 HX7
    obtain ⟨kk, ekk⟩ : ∃ kk, kk = endC 1 cs := ⟨_, rfl⟩
    have hkk : ¬ kk < 0 := by rw [ekk]; exact endC_pos (by decide) cs
    rw [← ekk]
    clear ekk
    go_wp2_with fail
    refine (eqIntS_any p4 p2 n4 n2 c4 c2 zs w8 HG8.out.1 HZ2.out.2 (by omega) HG8.out.iin (HZ2.out.1.below HB8.out)).mono ?_
    rintro e w9 ⟨rfl, d9, hw9⟩
    have hb : Below w8.heap.size w8 w9 := by rw [hw9]; exact below_drew_any _
    have HG9 : Hid (OwnI w9 w3.heap.size 3 p4 n4 c4 zs) := HG8.out.below hb
    have HA9 : Hid (Below w.heap.size w w9) := Below.on HA8.out hb
    have HB9 : Hid (Below w2.heap.size w2 w9) := Below.on HB8.out hb
    have HS9 : Hid (w3.heap.size ≤ w9.heap.size) := Nat.le_trans HS8.out hb.size
    clear hb hw9 HG8
    go_wp2_with fail
    refine (markIntS_any w3.heap.size p4 n4 c4 1 zs w9 (by decide) (by decide) (by omega) HG9.out).mono ?_
    rintro e w10 ⟨rfl, ho10, hg⟩
    have hb : Below w3.heap.size w9 w10 := (Below.refl _ _).grown hg HS9.out (fun k hk => (HG9.out.2.lt k hk).1)
    have HH10 : Hid (IIn w10 p4 (ups 1 n4)) := ho10.iin
    have HA10 : Hid (Below w.heap.size w w10) := HA9.out.trans (hb.mono HA3.out.size)
    have HB10 : Hid (Below w2.heap.size w2 w10) := HB9.out.trans (hb.mono HB3.out.size)
    clear hb hg ho10 HG9
    have hm0 : ¬ ((1 : Int) + n4 < 0) := by omega
    go_wp2_with fail
    refine (heldIntS_any p4 n4 c4 1 w10 (by decide) (by decide) (by omega) HH10.out).mono ?_
    rintro e w11 ⟨rfl, rfl⟩
    go_wp2_with fail
    refine (toCellS_any p cap cs _ hn (HI.out.below HA10.out).lies).mono ?_
    rintro e w12 ⟨rfl, ho12, hb⟩
    have HC12 : Hid (CIn w12 _ cs) := ho12.cin
    have HH12 : Hid (IIn w12 p4 (ups 1 n4)) := HH10.out.below hb
    have HA12 : Hid (Below w.heap.size w w12) := Below.on HA10.out hb
    have HB12 : Hid (Below w2.heap.size w2 w12) := Below.on HB10.out hb
    clear ho12 hb HH10
    go_wp2_with fail
    refine (HIM.out _ w12 HC12.out).mono ?_
    rintro e w13 ⟨p13, n13, c13, rfl, ho13, hb⟩
    have HH13 : Hid (IIn w13 p4 (ups 1 n4)) := HH12.out.below hb
    have HG13 : Hid (IIn w13 p13 zs ∧ n13 = zs.length) := ⟨ho13.iin, ho13.1⟩
    have HA13 : Hid (Below w.heap.size w w13) := Below.on HA12.out hb
    have HB13 : Hid (Below w2.heap.size w2 w13) := Below.on HB12.out hb
    have hn13 : n13 ≤ 2000 := by have := ho13.1; have := HZL.out; omega
    clear ho13 hb HH12 HC12
    go_wp2_with fail
    refine (eqIntS_any p13 p2 n13 n2 c13 c2 zs w13 HG13.out.2 HZ2.out.2 (by omega) HG13.out.1 (HZ2.out.1.below HB13.out)).mono ?_
    rintro e w14 ⟨rfl, d14, hw14⟩
    have hb : Below w13.heap.size w13 w14 := by rw [hw14]; exact below_drew_any _
    have HH14 : Hid (IIn w14 p4 (ups 1 n4)) := HH13.out.below hb
    have HA14 : Hid (Below w.heap.size w w14) := Below.on HA13.out hb
    clear hb hw14 HH13
    go_wp2_with fail
    refine (heldIntS_any p4 n4 c4 1 w14 (by decide) (by decide) (by omega) HH14.out).mono ?_
    rintro e w15 ⟨rfl, rfl⟩
    go_wp2_with fail
    go_ret
    exact ⟨rfl, HA14.out⟩
  · have er : szR 1048576 (cs.length + tl cs) = -1 := by rw [szR, if_neg hn]
    rw [er] at HS
    clear er HBY
    go_enter Tryz.func3, Tryz.ntmps3
    go_wp2_with (go_at_call 4; refine HS.mono ?_; rintro e w0 ⟨rfl, hb0⟩)
    go_ret
    exact ⟨rfl, hb0⟩
end Go.Proofs.YtpigjapbhbdhbaaGreatDoor

namespace Go.Proofs.YtpigjapbhbdhbaaGreatDoor
open Go Go.ChangeShapes Go.WideShapes Go.ChangeAt Go.WideMaps Go.WideElems Go.RowKit Go.Deep
theorem own : ownKnob Tryz.prog.godebug = none := by kernel_rfl
theorem laidOut : laidOutB Tryz.prog = true := by kernel_rfl
theorem cellsByte : Tryz.prog.cellsOf 5 = 1 := by kernel_rfl
theorem cellsInt : Tryz.prog.cellsOf 3 = 1 := by kernel_rfl
theorem cellsText : Tryz.prog.cellsOf 35 = 1 := by kernel_rfl
theorem cellsCell : Tryz.prog.cellsOf 37 = 3 := by kernel_rfl
theorem openedText {H : Type} {enc : TypeId × Value → H} {W : World} {fuel : Nat} {v : Value} {x : DataW H × List MemPlace}
    (h : DataW.trod enc Tryz.prog W 0 (fun _ => true) true fuel 35 [v] = some x) :
    ∃ (p : Option Addr) (cap : Nat) (xs : List Int), v = .slice p xs.length cap ∧ xs.length ≤ 9223372036854775807 ∧ BIn W p xs ∧ ∀ y ∈ xs, 0 ≤ y ∧ y < 256 := by
  rcases open_ints Tryz.underlying35 Tryz.underlying5 cellsByte h with ⟨hcs, hx⟩ | ⟨a, len', cap', zs, hcs, _, hl, hm, hz, hx, hcell, hwz⟩
  · obtain rfl : v = .slice none 0 0 := by simpa using hcs
    exact ⟨none, 0, [], rfl, by decide, fun h => absurd h (Nat.lt_irrefl 0), fun x hx => by cases hx⟩
  · obtain rfl : v = .slice (some a) len' cap' := by simpa using hcs
    simp only [if_true] at hz
    unfold maxLen at hm
    refine ⟨some a, cap', zs.take len', by congr 1; simp; omega, by simp; omega, fun hn => ?_, fun x hx' => ?_⟩
    · have hn' : 0 < zs.length := by simp at hn; omega
      obtain ⟨b, o, s⟩ := a
      obtain rfl : s = none := by simpa [Addr.add] using World.cell?_spot (hcell 0 hn')
      refine ⟨b, o, rfl, fun i hi => ?_⟩
      have hi' : i < len' := by simp at hi; omega
      have := hcell i (by omega)
      rw [add_plain] at this
      rw [this]
      simp [List.getD, hi']
    · have h := hwz x (List.mem_of_mem_take hx')
      have h1 : IntKind.u8.min = 0 := rfl
      have h2 : IntKind.u8.max = 255 := rfl
      simp only [Lit.wf, Bool.and_eq_true, decide_eq_true_eq] at h
      omega
theorem wf_i64 {n : Int} (h : (Lit.int .i64 n).wf = true) : -9223372036854775808 ≤ n ∧ n ≤ 9223372036854775807 := by
  have h1 : IntKind.i64.min = -9223372036854775808 := rfl
  have h2 : IntKind.i64.max = 9223372036854775807 := rfl
  simp only [Lit.wf, Bool.and_eq_true, decide_eq_true_eq] at h
  omega
theorem three_of {cs : List Value} (h : cs.length = 3) : ∃ a b c, cs = [a, b, c] := by
  match cs, h with
  | [a, b, c], _ => exact ⟨a, b, c, rfl⟩
theorem openedCell {H : Type} {enc : TypeId × Value → H} {W : World} {fuel : Nat} {cs : List Value} {x : DataW H × List MemPlace}
    (h : DataW.trod enc Tryz.prog W 0 (fun _ => true) true fuel 37 cs = some x) :
    ∃ (k n : Int) (p : Option Addr) (cap : Nat) (xs : List Int), cs = [.int .i64 k, .int .i64 n, .slice p xs.length cap] ∧ xs.length ≤ 9223372036854775807 ∧ BIn W p xs ∧ (∀ y ∈ xs, 0 ≤ y ∧ y < 256) ∧
      (-9223372036854775808 ≤ k ∧ k ≤ 9223372036854775807 ∧ -9223372036854775808 ≤ n ∧ n ≤ 9223372036854775807) := by
  obtain ⟨y0, y1, y2, n, hx, hl, h0, h1, h2⟩ := trod_struct3 Tryz.underlying37 h
  rw [cellsCell] at hl
  obtain ⟨a, b, c, rfl⟩ := three_of hl
  simp only [cellsInt, cellsText, List.drop_zero, List.take_succ_cons, List.take_zero, List.drop_succ_cons] at h0 h1 h2
  obtain ⟨k, e0, _, w0⟩ := DataW.trod_int Tryz.underlying3 h0
  obtain ⟨m, e1, _, w1⟩ := DataW.trod_int Tryz.underlying3 h1
  obtain ⟨p, cap, xs, rfl, hlen, hin, hb⟩ := openedText h2
  obtain rfl : a = .int .i64 k := by simpa using e0
  obtain rfl : b = .int .i64 m := by simpa using e1
  exact ⟨k, m, p, cap, xs, rfl, hlen, hin, hb, (wf_i64 w0).1, (wf_i64 w0).2, (wf_i64 w1).1, (wf_i64 w1).2⟩
theorem getD_map_range (f : Nat → Cel) (n i : Nat) (h : i < n) : ((List.range n).map f).getD i Cel.none = f i := by
  simp [List.getD, h]
theorem openedCells {H : Type} {enc : TypeId × Value → H} {W : World} {a0 : Option Addr} {len cap : Nat} {d0 : DataW H} {p : List MemPlace}
    (h0 : DataW.Trod enc Tryz.prog W 0 (fun _ => true) true 22 (.slice a0 len cap) d0 p) : ∃ cs : List Cel, cs.length = len ∧ CArg W a0 cs := by
  obtain ⟨fuel, hf⟩ := h0
  rcases open_slice Tryz.underlying22 hf with ⟨hcs, hx⟩ | ⟨a, len', cap', m, n, D, Pl, hcs, hb, hl, hm, hmm, hx, hel⟩
  · simp [Value.cells] at hcs
    obtain ⟨rfl, rfl, rfl⟩ := hcs
    exact ⟨[], rfl, fun h => absurd h (Nat.lt_irrefl 0), by decide, fun i h => by simp at h, fun i h => by simp at h, fun i h => by simp at h⟩
  · simp [Value.cells] at hcs
    obtain ⟨rfl, rfl, rfl⟩ := hcs
    simp only [if_true] at hmm
    subst hmm
    unfold maxLen at hm
    obtain ⟨b, o, s⟩ := a
    have hs0 : ∀ i, i = 0 → i < len → s = none := fun i hi0 hlen => by
      obtain ⟨cs', hc, ht⟩ := hel i (by omega)
      obtain ⟨k, n', q, qc, xs, rfl, r1, r2, r3, r4⟩ := openedCell ht
      rw [cellsCell] at hc
      have g0 := (World.cells?_some hc).2.2 0 (by decide)
      have g := World.cell?_spot g0
      rw [hi0] at g
      simpa [Addr.add] using g
    have each : ∀ i, i < len → ∃ c : Cel, s = none ∧ CAt W b (o + i * 3) c ∧ c.2.2.length ≤ 9223372036854775807 ∧ (∀ y ∈ c.2.2, 0 ≤ y ∧ y < 256) ∧ (-9223372036854775808 ≤ c.1 ∧ c.1 ≤ 9223372036854775807 ∧ -9223372036854775808 ≤ c.2.1 ∧ c.2.1 ≤ 9223372036854775807) := fun i hi => by
      obtain ⟨cs', hc, ht⟩ := hel i (by omega)
      obtain ⟨k, n', q, qc, xs, rfl, r1, r2, r3, r4⟩ := openedCell ht
      rw [cellsCell] at hc
      have hs := (World.cells?_some hc).2.2
      have g0 := hs 0 (by decide)
      have g1 := hs 1 (by decide)
      have g2 := hs 2 (by decide)
      obtain rfl : s = none := hs0 0 rfl (by omega)
      simp only [add_plain] at g0 g1 g2
      exact ⟨(k, n', xs), rfl, ⟨q, qc, g0, g1, g2, r2⟩, r1, r3, r4⟩
    obtain ⟨f, hfx⟩ := choose_lt each
    have hat : ∀ i, i < len → ((List.range len).map f).getD i Cel.none = f i := fun i hi => getD_map_range f len i hi
    refine ⟨(List.range len).map f, by simp, fun hn => ?_, by simp; omega, fun i hi => ?_, fun i hi => ?_, fun i hi => ?_⟩
    · have hn' : 0 < len := by simpa using hn
      obtain rfl : s = none := (hfx 0 hn').1
      refine ⟨b, o, rfl, fun i hi => ?_⟩
      have hi' : i < len := by simpa using hi
      rw [hat i hi']
      exact (hfx i hi').2.1
    · have hi' : i < len := by simpa using hi
      rw [hat i hi']
      exact (hfx i hi').2.2.1
    · have hi' : i < len := by simpa using hi
      rw [hat i hi']
      exact (hfx i hi').2.2.2.1
    · have hi' : i < len := by simpa using hi
      rw [hat i hi']
      exact (hfx i hi').2.2.2.2
end Go.Proofs.YtpigjapbhbdhbaaGreatDoor

