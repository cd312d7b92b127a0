/- Texts of IbU, ClP, ClQ, NbI1. Own work of the verifier. -/
import Derived.Test.YtpigjapbhbdhbaaGreatDoorUqam
import Derived.Test.YtpigjapbhbdhbaaGreatDoorUqak
import Derived.Test.YtpigjapbhbdhbaaGreatDoorUqah
import Derived.Test.YtpigjapbhbdhbaaGreatDoorUqae
namespace Go.Proofs.YtpigjapbhbdhbaaGreatDoor
open Go Go.RowKit
set_option linter.unusedVariables false
def unU (xs : List Int) : List UInt8 := xs.map fun n => UInt8.ofNat n.toNat
theorem str_unU (xs : List Int) : strOfNums xs = bOf (unU xs) := by
  apply ba_ext
  rw [str_list, bOf_list]; rfl
end Go.Proofs.YtpigjapbhbdhbaaGreatDoor

namespace Go.Proofs.YtpigjapbhbdhbaaGreatDoor
open Go Go.RowKit
set_option linter.unusedVariables false
def comma : Cel := (3, 2, [44])
def splitC : Cel → Fo → List (Cel × Fo) × (Cel × Fo)
  | c, .node c1 k1 (.node c2 k2 .nil) => if c = comma then ((c1, k1) :: (splitC c2 k2).1, (splitC c2 k2).2) else ([], (c, .node c1 k1 (.node c2 k2 .nil)))
  | c, k => ([], (c, k))
theorem splitC_comma (c1 : Cel) (k1 : Fo) (c2 : Cel) (k2 : Fo) : splitC comma (.node c1 k1 (.node c2 k2 .nil)) = ((c1, k1) :: (splitC c2 k2).1, (splitC c2 k2).2) := by
  rw [splitC, if_pos rfl]
theorem splitC_other (c : Cel) (k : Fo) (h : c ≠ comma) : splitC c k = ([], (c, k)) := by
  unfold splitC
  split
  · rw [if_neg h]
  · rfl
def conjL (c : Cel) (k : Fo) : List Tr := (splitC c k).1 ++ [(splitC c k).2]
theorem conjL_comma (c1 : Cel) (k1 : Fo) (c2 : Cel) (k2 : Fo) : conjL comma (.node c1 k1 (.node c2 k2 .nil)) = (c1, k1) :: conjL c2 k2 := by
  unfold conjL; rw [splitC_comma]; rfl
theorem conjL_other (c : Cel) (k : Fo) (h : c ≠ comma) : conjL c k = [(c, k)] := by
  unfold conjL; rw [splitC_other c k h]; rfl
def kid0 (t : Tr) : Tr := (trs t.2).getD 0 (Cel.none, .nil)
def kid1 (t : Tr) : Tr := (trs t.2).getD 1 (Cel.none, .nil)
def lvlN : List Int := [36, 108, 101, 118, 101, 108]
def mrkN : List Int := [36, 109, 97, 114, 107]
def cutN : List Int := [36, 99, 117, 116]
def spcC (c : Cel) : Bool := decide (c.1 = 3 ∧ c.2.1 = 1 ∧ (c.2.2 = lvlN ∨ c.2.2 = mrkN ∨ c.2.2 = cutN))
def calC (c : Cel) : Bool := decide (c.1 = 2 ∨ c.1 = 3)
def conC (c : Cel) : Bool := conB (strOfNums c.2.2) c.2.1
def buC (c : Cel) : Bool := isBu (unU c.2.2) c.2.1
def goodG (t : Tr) : Bool := calC t.1 && (!conC t.1 && (!spcC t.1 || decide ((kid0 t).1.1 = 0)))
def inlG (t : Tr) : Bool := spcC t.1 || buC t.1
def ruleC : Cel := (3, 2, [58, 45])
def trueC : Cel := (2, 0, [116, 114, 117, 101])
def goalsT (t : Tr) : List Tr := if t.1 = trueC then [] else conjL t.1 t.2
def flatB (t : Tr) : Bool := decide (t.1 = ruleC) && (decide (renCells (t.1 :: t.2.cells) = t.1 :: t.2.cells) && (calC (kid0 t).1 && (goalsT (kid1 t)).all goodG))
def vsC (cs : List Cel) : List Int := (cs.filter fun c => decide (c.1 = 0)).map fun c => c.2.1
theorem vsC_append (a b : List Cel) : vsC (a ++ b) = vsC a ++ vsC b := by simp [vsC]
theorem vsC_cons (c : Cel) (r : List Cel) : vsC (c :: r) = if c.1 = 0 then c.2.1 :: vsC r else vsC r := by
  unfold vsC
  by_cases h : c.1 = 0
  · simp [h]
  · simp [h]
def meetP (q : Int) (st : List Int × List Int) (v : Int) : List Int × List Int :=
  if v = st.1.length then (st.1 ++ [0], st.2 ++ [q]) else if st.2.getD v.toNat 0 ≠ q then (st.1.set v.toNat 2, st.2) else (st.1.set v.toNat 1, st.2)
def meetsP (q : Int) (st : List Int × List Int) (vs : List Int) : List Int × List Int := vs.foldl (meetP q) st
def goalsP : Int → List Int × List Int → List Tr → List Int × List Int
  | _, st, [] => st
  | q, st, g :: r => goalsP (if inlG g then q else q + 1) (meetsP q st (vsC (g.1 :: g.2.cells))) r
def classP (t : Tr) : List Int := (goalsP 0 (meetsP 0 ([], []) (vsC ((kid0 t).1 :: (kid0 t).2.cells))) (goalsT (kid1 t))).1
def meetM (q : Int) (st : List Int × List Int × List Int) (v : Int) : List Int × List Int × List Int :=
  (st.1.set v.toNat (st.1.getD v.toNat 0 + 1), st.2.1.set v.toNat q, if 0 < st.1.getD v.toNat 0 ∧ st.2.1.getD v.toNat 0 ≠ q then st.2.2.set v.toNat 2 else st.2.2)
def meetsM (q : Int) (st : List Int × List Int × List Int) (vs : List Int) : List Int × List Int × List Int := vs.foldl (meetM q) st
def goalsM : Int → List Int × List Int × List Int → List Tr → List Int × List Int × List Int
  | _, st, [] => st
  | q, st, g :: r => goalsM (if inlG g then q else q + 1) (meetsM q st (vsC (g.1 :: g.2.cells))) r
def endM (st : List Int × List Int × List Int) : List Int := (List.range st.2.2.length).map fun v => if st.2.2.getD v 0 ≠ 2 ∧ 1 < st.1.getD v 0 then 1 else st.2.2.getD v 0
def classM (n : Nat) (t : Tr) : List Int := endM (goalsM 0 (meetsM 0 (List.replicate n 0, List.replicate n 0, List.replicate n 0) (vsC ((kid0 t).1 :: (kid0 t).2.cells))) (goalsT (kid1 t)))
structure Side (n : Nat) (q : Int) (P : List Int × List Int) (M : List Int × List Int × List Int) : Prop where
  pl : P.2.length = P.1.length
  pn : P.1.length ≤ n
  m1 : M.1.length = n
  m2 : M.2.1.length = n
  m3 : M.2.2.length = n
  old : ∀ v, v < P.1.length → 1 ≤ M.1.getD v 0 ∧ P.2.getD v 0 ≤ M.2.1.getD v 0 ∧ M.2.1.getD v 0 ≤ q ∧ M.2.2.getD v 0 = (if P.2.getD v 0 ≠ M.2.1.getD v 0 then 2 else 0) ∧ P.1.getD v 0 = (if P.2.getD v 0 ≠ M.2.1.getD v 0 then 2 else if 1 < M.1.getD v 0 then 1 else 0)
  new : ∀ v, P.1.length ≤ v → v < n → M.1.getD v 0 = 0 ∧ M.2.2.getD v 0 = 0
theorem getD_set (l : List Int) (i j : Nat) (x : Int) (h : i < l.length) : (l.set i x).getD j 0 = if j = i then x else l.getD j 0 := by
  simp only [List.getD, List.getElem?_set]
  by_cases e : j = i
  · subst e; simp [h]
  · rw [if_neg (fun h => e h.symm), if_neg e]
theorem getD_snoc (l : List Int) (j : Nat) (x : Int) : (l ++ [x]).getD j 0 = if j = l.length then x else l.getD j 0 := by
  simp only [List.getD]
  by_cases e : j = l.length
  · subst e; simp
  · rw [if_neg e]
    by_cases h : j < l.length
    · rw [List.getElem?_append_left h]
    · rw [List.getElem?_eq_none (by simp; omega), List.getElem?_eq_none (by omega)]
theorem Side.up {n : Nat} {q q' : Int} {P : List Int × List Int} {M : List Int × List Int × List Int} (h : Side n q P M) (hq : q ≤ q') : Side n q' P M :=
  ⟨h.pl, h.pn, h.m1, h.m2, h.m3, fun v hv => ⟨(h.old v hv).1, (h.old v hv).2.1, by have := (h.old v hv).2.2.1; omega, (h.old v hv).2.2.2⟩, h.new⟩
theorem side_meet {n : Nat} {q : Int} {P : List Int × List Int} {M : List Int × List Int × List Int} (h : Side n q P M) {v : Int} (h0 : 0 ≤ v) (h1 : v ≤ P.1.length) (h2 : v < n) : Side n q (meetP q P v) (meetM q M v) := by
  obtain ⟨u, rfl⟩ : ∃ u : Nat, v = (u : Int) := ⟨v.toNat, by omega⟩
  have hu1 : u ≤ P.1.length := by omega
  have hu2 : u < n := by omega
  obtain ⟨P1, P2⟩ := P
  obtain ⟨M1, M2, M3⟩ := M
  obtain ⟨pl, pn, m1, m2, m3, ho, hn⟩ := h
  simp only at pl pn m1 m2 m3 ho hn hu1
  unfold meetP meetM
  simp only [Int.toNat_natCast]
  by_cases e : u = P1.length
  · rw [if_pos (by omega)]
    have hnw := hn u (by omega) hu2
    have hm : (if 0 < M1.getD u 0 ∧ M2.getD u 0 ≠ q then M3.set u 2 else M3) = M3 := if_neg (by omega)
    rw [hm]
    refine ⟨by simp [pl], by simp; omega, by simpa using m1, by simpa using m2, m3, fun w hw => ?_, fun w hw1 hw2 => ?_⟩
    · dsimp only at hw ⊢
      simp only [List.length_append, List.length_cons, List.length_nil] at hw
      have a1 : (M1.set u (M1.getD u 0 + 1)).getD w 0 = if w = u then M1.getD u 0 + 1 else M1.getD w 0 := getD_set _ _ _ _ (by omega)
      have a2 : (M2.set u q).getD w 0 = if w = u then q else M2.getD w 0 := getD_set _ _ _ _ (by omega)
      have a3 : (P2 ++ [q]).getD w 0 = if w = u then q else P2.getD w 0 := by rw [getD_snoc, pl, e]
      have a4 : (P1 ++ [0]).getD w 0 = if w = u then 0 else P1.getD w 0 := by rw [getD_snoc, e]
      rw [a1, a2, a3, a4]
      by_cases ew : w = u
      · simp only [if_pos ew]
        rw [ew, hnw.1, hnw.2]
        exact ⟨by omega, Int.le_refl _, Int.le_refl _, by simp, by simp⟩
      · simp only [if_neg ew]
        exact ho w (by omega)
    · dsimp only at hw1 ⊢
      simp only [List.length_append, List.length_cons, List.length_nil] at hw1
      have a1 : (M1.set u (M1.getD u 0 + 1)).getD w 0 = if w = u then M1.getD u 0 + 1 else M1.getD w 0 := getD_set _ _ _ _ (by omega)
      rw [a1, if_neg (by omega)]
      exact hn w (by omega) hw2
  · rw [if_neg (by omega)]
    have hou := ho u (by omega)
    have b1 : ∀ w, (M1.set u (M1.getD u 0 + 1)).getD w 0 = if w = u then M1.getD u 0 + 1 else M1.getD w 0 := fun w => getD_set _ _ _ _ (by omega)
    have b2 : ∀ w, (M2.set u q).getD w 0 = if w = u then q else M2.getD w 0 := fun w => getD_set _ _ _ _ (by omega)
    have b3 : ∀ w, (if 0 < M1.getD u 0 ∧ M2.getD u 0 ≠ q then M3.set u 2 else M3).getD w 0 = if w = u ∧ M2.getD u 0 ≠ q then 2 else M3.getD w 0 := fun w => by
      by_cases h9 : M2.getD u 0 ≠ q
      · rw [if_pos ⟨by omega, h9⟩, getD_set _ _ _ _ (by omega)]
        by_cases ew : w = u
        · rw [if_pos ew, if_pos ⟨ew, h9⟩]
        · rw [if_neg ew, if_neg (fun h => ew h.1)]
      · rw [if_neg (fun h => h9 h.2), if_neg (fun h => h9 h.2)]
    have b4 : (if 0 < M1.getD u 0 ∧ M2.getD u 0 ≠ q then M3.set u 2 else M3).length = n := by split <;> simpa using m3
    by_cases ef : P2.getD u 0 ≠ q
    · rw [if_pos ef]
      have b5 : ∀ w, (P1.set u 2).getD w 0 = if w = u then 2 else P1.getD w 0 := fun w => getD_set _ _ _ _ (by omega)
      refine ⟨by simpa using pl, by simpa using pn, by simpa using m1, by simpa using m2, b4, fun w hw => ?_, fun w hw1 hw2 => ?_⟩
      · dsimp only at hw ⊢
        simp only [List.length_set] at hw
        rw [b1, b2, b3, b5]
        by_cases ew : w = u
        · simp only [if_pos ew]
          rw [ew]
          refine ⟨by omega, by omega, by omega, ?_, by rw [if_pos ef]⟩
          rw [if_pos ef]
          by_cases eg : M2.getD u 0 = q
          · rw [if_neg (fun h => h.2 eg), hou.2.2.2.1, if_pos (by omega)]
          · rw [if_pos ⟨rfl, eg⟩]
        · simp only [if_neg ew]
          rw [if_neg (fun h => ew h.1)]
          exact ho w hw
      · dsimp only at hw1 ⊢
        simp only [List.length_set] at hw1
        have ew : ¬ w = u := by omega
        rw [b1, b3, if_neg ew, if_neg (fun h => ew h.1)]
        exact hn w hw1 hw2
    · rw [if_neg ef]
      have eq1 : P2.getD u 0 = q := Classical.not_not.1 ef
      have eq2 : M2.getD u 0 = q := by omega
      have b5 : ∀ w, (P1.set u 1).getD w 0 = if w = u then 1 else P1.getD w 0 := fun w => getD_set _ _ _ _ (by omega)
      refine ⟨by simpa using pl, by simpa using pn, by simpa using m1, by simpa using m2, b4, fun w hw => ?_, fun w hw1 hw2 => ?_⟩
      · dsimp only at hw ⊢
        simp only [List.length_set] at hw
        rw [b1, b2, b3, b5]
        by_cases ew : w = u
        · simp only [if_pos ew]
          rw [ew]
          refine ⟨by omega, by omega, by omega, ?_, ?_⟩
          · rw [if_neg (fun h => h.2 eq2), if_neg ef, hou.2.2.2.1, if_neg (by omega)]
          · rw [if_neg ef, if_pos (by omega)]
        · simp only [if_neg ew]
          rw [if_neg (fun h => ew h.1)]
          exact ho w hw
      · dsimp only at hw1 ⊢
        simp only [List.length_set] at hw1
        have ew : ¬ w = u := by omega
        rw [b1, b3, if_neg ew, if_neg (fun h => ew h.1)]
        exact hn w hw1 hw2
end Go.Proofs.YtpigjapbhbdhbaaGreatDoor

namespace Go.Proofs.YtpigjapbhbdhbaaGreatDoor
open Go Go.RowKit
set_option linter.unusedVariables false
def okV : Nat → List Int → Prop
  | _, [] => True
  | m, v :: r => (0 ≤ v ∧ v ≤ m) ∧ okV (if v = m then m + 1 else m) r
def endV : Nat → List Int → Nat
  | m, [] => m
  | m, v :: r => endV (if v = m then m + 1 else m) r
theorem endV_le : ∀ (vs : List Int) (m : Nat), m ≤ endV m vs
  | [], m => Nat.le_refl _
  | v :: r, m => by have := endV_le r (if v = m then m + 1 else m); unfold endV; split at this <;> split <;> first | omega | contradiction
theorem endV_append : ∀ (a b : List Int) (m : Nat), endV m (a ++ b) = endV (endV m a) b
  | [], b, m => rfl
  | v :: r, b, m => endV_append r b _
theorem okV_append : ∀ (a b : List Int) (m : Nat), okV m (a ++ b) ↔ okV m a ∧ okV (endV m a) b
  | [], b, m => by simp [okV, endV]
  | v :: r, b, m => by
    show (_ ∧ okV _ (r ++ b)) ↔ (_ ∧ okV _ r) ∧ okV (endV _ r) b
    rw [okV_append r b]
    exact and_assoc.symm
theorem ren_seq (L : List Int) : ∀ (b : List Cel) (P : List Int), visits P b = L → (∀ c ∈ b, renI L c = c) → okV P.length (vsC b) ∧ endV P.length (vsC b) = L.length
  | [], P, h, _ => ⟨trivial, by rw [← h]; rfl⟩
  | c :: r, P, h, hr => by
    rw [visits_cons] at h
    have hrr : ∀ c ∈ r, renI L c = c := fun d hd => hr d (List.mem_cons_of_mem _ hd)
    rw [vsC_cons]
    by_cases h0 : c.1 = 0
    · rw [if_pos h0]
      have hc := hr c (List.mem_cons_self ..)
      rw [renI, if_pos h0] at hc
      have hv : ((L.idxOf c.2.1 : Nat) : Int) = c.2.1 := by
        have := congrArg (fun x : Cel => x.2.1) hc
        exact this
      have hvl : visitL P c = putV P c.2.1 := by unfold visitL; rw [if_pos h0]
      rw [hvl] at h
      have ih := ren_seq L r (putV P c.2.1) h hrr
      have hpre : putV P c.2.1 <+: L := by rw [← h]; exact visits_prefix r _
      have hidx : L.idxOf c.2.1 = P.idxOf c.2.1 := by rw [idxOf_prefix hpre (putV_mem P c.2.1), putV_idx]
      rw [hidx] at hv
      by_cases hm : c.2.1 ∈ P
      · have hlt := List.idxOf_lt_length_of_mem hm
        have e : putV P c.2.1 = P := by unfold putV; rw [if_pos hm]
        rw [e] at ih
        have hne : ¬ c.2.1 = (P.length : Int) := by omega
        refine ⟨⟨⟨by omega, by omega⟩, by rw [if_neg hne]; exact ih.1⟩, ?_⟩
        show endV (if c.2.1 = (P.length : Int) then P.length + 1 else P.length) (vsC r) = _
        rw [if_neg hne]; exact ih.2
      · have hl := List.idxOf_eq_length hm
        have e : putV P c.2.1 = P ++ [c.2.1] := by unfold putV; rw [if_neg hm]
        rw [e] at ih
        have he : c.2.1 = (P.length : Int) := by omega
        rw [List.length_append] at ih
        refine ⟨⟨⟨by omega, by omega⟩, by rw [if_pos he]; exact ih.1⟩, ?_⟩
        show endV (if c.2.1 = (P.length : Int) then P.length + 1 else P.length) (vsC r) = _
        rw [if_pos he]; exact ih.2
    · rw [if_neg h0]
      have hvl : visitL P c = P := by unfold visitL; rw [if_neg h0]
      rw [hvl] at h
      exact ren_seq L r P h hrr
theorem own_seq {cs : List Cel} (h : renCells cs = cs) : okV 0 (vsC cs) ∧ endV 0 (vsC cs) = (visits [] cs).length := by
  refine ren_seq (visits [] cs) cs [] rfl fun c hc => ?_
  obtain ⟨i, hi, rfl⟩ := List.getElem_of_mem hc
  have := congrArg (fun l : List Cel => l[i]?) h
  simp only [renCells, List.getElem?_map, List.getElem?_eq_getElem hi, Option.map_some, Option.some.injEq] at this
  exact this
theorem meetP_len (q : Int) (P : List Int × List Int) (v : Int) : (meetP q P v).1.length = if v = P.1.length then P.1.length + 1 else P.1.length := by
  unfold meetP
  split
  · simp
  · split <;> simp
theorem side_meets {n : Nat} {q : Int} : ∀ (vs : List Int) {P : List Int × List Int} {M : List Int × List Int × List Int}, Side n q P M → okV P.1.length vs → endV P.1.length vs ≤ n → Side n q (meetsP q P vs) (meetsM q M vs) ∧ (meetsP q P vs).1.length = endV P.1.length vs
  | [], P, M, h, _, _ => ⟨h, rfl⟩
  | v :: r, P, M, h, ho, he => by
    have hl := meetP_len q P v
    have he' : endV (meetP q P v).1.length r ≤ n := by rw [hl]; exact he
    have h1 : v < n := by
      have h9 := endV_le r (meetP q P v).1.length
      have h8 := ho.1
      by_cases e : v = P.1.length
      · rw [if_pos e] at hl; omega
      · have := h.pn; omega
    have hs := side_meet h ho.1.1 ho.1.2 h1
    have ih := side_meets r hs (by rw [hl]; exact ho.2) he'
    refine ⟨ih.1, ?_⟩
    have e2 := ih.2
    rw [hl] at e2
    exact e2
def vsG : List Tr → List Int
  | [] => []
  | g :: r => vsC (g.1 :: g.2.cells) ++ vsG r
theorem side_goals {n : Nat} : ∀ (gs : List Tr) {q : Int} {P : List Int × List Int} {M : List Int × List Int × List Int}, Side n q P M → okV P.1.length (vsG gs) → endV P.1.length (vsG gs) ≤ n → ∃ q', Side n q' (goalsP q P gs) (goalsM q M gs) ∧ (goalsP q P gs).1.length = endV P.1.length (vsG gs)
  | [], q, P, M, h, _, _ => ⟨q, h, rfl⟩
  | g :: r, q, P, M, h, ho, he => by
    rw [vsG, okV_append] at ho
    rw [vsG, endV_append] at he
    have h1 := side_meets (vsC (g.1 :: g.2.cells)) h ho.1 (by have := endV_le (vsG r) (endV P.1.length (vsC (g.1 :: g.2.cells))); omega)
    have h2 : Side n (if inlG g then q else q + 1) (meetsP q P (vsC (g.1 :: g.2.cells))) (meetsM q M (vsC (g.1 :: g.2.cells))) := h1.1.up (by split <;> omega)
    obtain ⟨q', h3, h4⟩ := side_goals r h2 (by rw [h1.2]; exact ho.2) (by rw [h1.2]; exact he)
    refine ⟨q', h3, ?_⟩
    have e : (goalsP q P (g :: r)) = goalsP (if inlG g then q else q + 1) (meetsP q P (vsC (g.1 :: g.2.cells))) r := rfl
    rw [e, h4, h1.2, vsG, endV_append]
theorem side_end {n : Nat} {q : Int} {P : List Int × List Int} {M : List Int × List Int × List Int} (h : Side n q P M) (hl : P.1.length = n) : endM M = P.1 := by
  apply List.ext_getElem
  · simp [endM, h.m3, hl]
  · intro i h1 h2
    have ho := h.old i h2
    have hp : P.1[i] = P.1.getD i 0 := by simp [List.getD, h2]
    simp only [endM, List.getElem_map, List.getElem_range]
    rw [hp, ho.2.2.2.2, ho.2.2.2.1]
    by_cases e : P.2.getD i 0 ≠ M.2.1.getD i 0
    · rw [if_pos e, if_pos e]; simp
    · rw [if_neg e, if_neg e]
      by_cases e2 : 1 < M.1.getD i 0
      · rw [if_pos ⟨by decide, e2⟩, if_pos e2]
      · rw [if_neg (fun h => e2 h.2), if_neg e2]
theorem side_start (n : Nat) : Side n 0 ([], []) (List.replicate n 0, List.replicate n 0, List.replicate n 0) := by
  refine ⟨rfl, Nat.zero_le _, by simp, by simp, by simp, fun v h => by simp at h, fun v _ h => ?_⟩
  have e : (List.replicate n (0 : Int)).getD v 0 = 0 := by simp [List.getD, h]
  exact ⟨e, e⟩
theorem vsG_conj : ∀ (N : Nat) (c : Cel) (k : Fo), k.cells.length ≤ N → vsG (conjL c k) = vsC (c :: k.cells)
  | N, c, k, hN => by
    by_cases hc : c = comma
    · match k with
      | .node c1 k1 (.node c2 k2 .nil) =>
        subst hc
        cases N with
        | zero => simp [Fo.cells] at hN
        | succ N =>
          have ih := vsG_conj N c2 k2 (by simp [Fo.cells] at hN; omega)
          rw [conjL_comma, vsG, ih]
          have e : (Fo.node c1 k1 (.node c2 k2 .nil)).cells = (c1 :: k1.cells) ++ (c2 :: k2.cells) := by simp [Fo.cells]
          rw [e, vsC_cons comma, if_neg (by decide), vsC_append]
      | .nil => unfold conjL; unfold splitC; simp [vsG]
      | .node c1 k1 .nil => unfold conjL; unfold splitC; simp [vsG]
      | .node c1 k1 (.node c2 k2 (.node c3 k3 r)) => unfold conjL; unfold splitC; simp [vsG]
    · rw [conjL_other c k hc]; simp [vsG]
theorem two_kidsC {t : Tr} (h : t.2.count = 2) : t.2.cells = ((kid0 t).1 :: (kid0 t).2.cells) ++ ((kid1 t).1 :: (kid1 t).2.cells) := by
  obtain ⟨c1, k1, c2, k2, e⟩ := two_of h
  unfold kid0 kid1
  rw [e]
  simp [trs, Fo.cells]
theorem class_same {t : Tr} (h2 : t.2.count = 2) (hr : t.1 = ruleC) (hn : renCells (t.1 :: t.2.cells) = t.1 :: t.2.cells) (hb : (kid1 t).1 = trueC → (kid1 t).2.cells = []) : classM (visits [] (t.1 :: t.2.cells)).length t = classP t := by
  obtain ⟨h3, h4⟩ := own_seq hn
  have e1 : vsC (t.1 :: t.2.cells) = vsC ((kid0 t).1 :: (kid0 t).2.cells) ++ vsG (goalsT (kid1 t)) := by
    rw [two_kidsC h2, hr, vsC_cons, if_neg (by decide), vsC_append]
    congr 1
    unfold goalsT
    by_cases ht : (kid1 t).1 = trueC
    · rw [if_pos ht, hb ht, ht]; rfl
    · rw [if_neg ht, vsG_conj _ _ _ (Nat.le_refl _)]
  rw [e1] at h3 h4
  rw [okV_append] at h3
  rw [endV_append] at h4
  generalize (visits [] (t.1 :: t.2.cells)).length = n at h4
  have s1 := side_meets (vsC ((kid0 t).1 :: (kid0 t).2.cells)) (side_start n) h3.1 (by have := endV_le (vsG (goalsT (kid1 t))) (endV 0 (vsC ((kid0 t).1 :: (kid0 t).2.cells))); show endV 0 _ ≤ n; omega)
  obtain ⟨q', s2, s3⟩ := side_goals (goalsT (kid1 t)) s1.1 (by rw [s1.2]; exact h3.2) (by rw [s1.2]; show endV (endV 0 _) _ ≤ n; omega)
  exact side_end s2 (by rw [s3, s1.2]; exact h4)
end Go.Proofs.YtpigjapbhbdhbaaGreatDoor

namespace Go.Proofs.YtpigjapbhbdhbaaGreatDoor
open Go Go.RowKit
set_option linter.unusedVariables false
theorem nbA_var_var (w : World) (x : Value) : (Instr.typeAssert (.iface 72 x) 45 72 true).run Tryz.prog w = .ok (.tuple #[x, .bool true]) w := by kernel_rfl
theorem nbA_var_num (w : World) (x : Value) : (Instr.typeAssert (.iface 72 x) 45 113 true).run Tryz.prog w = .ok (.tuple #[.int .i64 0, .bool false]) w := by kernel_rfl
theorem nbA_var_atom (w : World) (x : Value) : (Instr.typeAssert (.iface 72 x) 45 107 true).run Tryz.prog w = .ok (.tuple #[.string ⟨#[]⟩, .bool false]) w := by kernel_rfl
theorem nbA_var_comp (w : World) (x : Value) : (Instr.typeAssert (.iface 72 x) 45 120 true).run Tryz.prog w = .ok (.tuple #[.pointer none, .bool false]) w := by kernel_rfl
theorem nbA_num_var (w : World) (x : Value) : (Instr.typeAssert (.iface 113 x) 45 72 true).run Tryz.prog w = .ok (.tuple #[.int .i64 0, .bool false]) w := by kernel_rfl
theorem nbA_num_num (w : World) (x : Value) : (Instr.typeAssert (.iface 113 x) 45 113 true).run Tryz.prog w = .ok (.tuple #[x, .bool true]) w := by kernel_rfl
theorem nbA_num_atom (w : World) (x : Value) : (Instr.typeAssert (.iface 113 x) 45 107 true).run Tryz.prog w = .ok (.tuple #[.string ⟨#[]⟩, .bool false]) w := by kernel_rfl
theorem nbA_num_comp (w : World) (x : Value) : (Instr.typeAssert (.iface 113 x) 45 120 true).run Tryz.prog w = .ok (.tuple #[.pointer none, .bool false]) w := by kernel_rfl
theorem nbA_atom_var (w : World) (x : Value) : (Instr.typeAssert (.iface 107 x) 45 72 true).run Tryz.prog w = .ok (.tuple #[.int .i64 0, .bool false]) w := by kernel_rfl
theorem nbA_atom_num (w : World) (x : Value) : (Instr.typeAssert (.iface 107 x) 45 113 true).run Tryz.prog w = .ok (.tuple #[.int .i64 0, .bool false]) w := by kernel_rfl
theorem nbA_atom_atom (w : World) (x : Value) : (Instr.typeAssert (.iface 107 x) 45 107 true).run Tryz.prog w = .ok (.tuple #[x, .bool true]) w := by kernel_rfl
theorem nbA_comp_var (w : World) (x : Value) : (Instr.typeAssert (.iface 120 x) 45 72 true).run Tryz.prog w = .ok (.tuple #[.int .i64 0, .bool false]) w := by kernel_rfl
theorem nbA_comp_num (w : World) (x : Value) : (Instr.typeAssert (.iface 120 x) 45 113 true).run Tryz.prog w = .ok (.tuple #[.int .i64 0, .bool false]) w := by kernel_rfl
theorem nbA_comp_atom (w : World) (x : Value) : (Instr.typeAssert (.iface 120 x) 45 107 true).run Tryz.prog w = .ok (.tuple #[.string ⟨#[]⟩, .bool false]) w := by kernel_rfl
theorem nbA_comp_comp (w : World) (x : Value) : (Instr.typeAssert (.iface 120 x) 45 120 true).run Tryz.prog w = .ok (.tuple #[x, .bool true]) w := by kernel_rfl
theorem nbKind_var (x : Value) (w : World) : Calls Tryz.prog 152 #[.iface 72 x] w fun e w' => e = .returned (.int .i64 0) ∧ w' = w := by
  have n_var := nbA_var_var
  have n_num := nbA_var_num
  have n_atom := nbA_var_atom
  go_enter Tryz.func152, Tryz.ntmps152
  go_wp2_with fail
  go_ret
  exact ⟨rfl, rfl⟩
theorem nbIsVar_var (x : Value) (w : World) : Calls Tryz.prog 120 #[.iface 72 x] w fun e w' => e = .returned (.bool true) ∧ w' = w := by
  have hk := nbKind_var x w
  go_enter Tryz.func120, Tryz.ntmps120
  go_wp2_with (go_at_call 152; refine hk.mono ?_; rintro e w' ⟨rfl, rfl⟩)
  go_ret
  exact ⟨rfl, rfl⟩
theorem nbKind_num (x : Value) (w : World) : Calls Tryz.prog 152 #[.iface 113 x] w fun e w' => e = .returned (.int .i64 1) ∧ w' = w := by
  have n_var := nbA_num_var
  have n_num := nbA_num_num
  have n_atom := nbA_num_atom
  go_enter Tryz.func152, Tryz.ntmps152
  go_wp2_with fail
  go_ret
  exact ⟨rfl, rfl⟩
theorem nbIsVar_num (x : Value) (w : World) : Calls Tryz.prog 120 #[.iface 113 x] w fun e w' => e = .returned (.bool false) ∧ w' = w := by
  have hk := nbKind_num x w
  go_enter Tryz.func120, Tryz.ntmps120
  go_wp2_with (go_at_call 152; refine hk.mono ?_; rintro e w' ⟨rfl, rfl⟩)
  go_ret
  exact ⟨rfl, rfl⟩
theorem nbKind_atom (x : Value) (w : World) : Calls Tryz.prog 152 #[.iface 107 x] w fun e w' => e = .returned (.int .i64 2) ∧ w' = w := by
  have n_var := nbA_atom_var
  have n_num := nbA_atom_num
  have n_atom := nbA_atom_atom
  go_enter Tryz.func152, Tryz.ntmps152
  go_wp2_with fail
  go_ret
  exact ⟨rfl, rfl⟩
theorem nbIsVar_atom (x : Value) (w : World) : Calls Tryz.prog 120 #[.iface 107 x] w fun e w' => e = .returned (.bool false) ∧ w' = w := by
  have hk := nbKind_atom x w
  go_enter Tryz.func120, Tryz.ntmps120
  go_wp2_with (go_at_call 152; refine hk.mono ?_; rintro e w' ⟨rfl, rfl⟩)
  go_ret
  exact ⟨rfl, rfl⟩
theorem nbKind_comp (x : Value) (w : World) : Calls Tryz.prog 152 #[.iface 120 x] w fun e w' => e = .returned (.int .i64 3) ∧ w' = w := by
  have n_var := nbA_comp_var
  have n_num := nbA_comp_num
  have n_atom := nbA_comp_atom
  go_enter Tryz.func152, Tryz.ntmps152
  go_wp2_with fail
  go_ret
  exact ⟨rfl, rfl⟩
theorem nbIsVar_comp (x : Value) (w : World) : Calls Tryz.prog 120 #[.iface 120 x] w fun e w' => e = .returned (.bool false) ∧ w' = w := by
  have hk := nbKind_comp x w
  go_enter Tryz.func120, Tryz.ntmps120
  go_wp2_with (go_at_call 152; refine hk.mono ?_; rintro e w' ⟨rfl, rfl⟩)
  go_ret
  exact ⟨rfl, rfl⟩
theorem nbFunAtom (s : ByteArray) (w : World) : Calls Tryz.prog 135 #[.string s] w fun e w' => e = .returned (.agg #[.string s, .int .i64 0]) ∧ Below w.heap.size w w' := by
  go_enter Tryz.func135, Tryz.ntmps135
  go_wp2_with fail
  exact bodyPost_ret (v := .agg #[.string s, .int .i64 0]) (by simp [results, Tryz.results135, go_sem]) rfl ⟨rfl, (Below.refl _ _).alloc (Nat.le_refl _) _⟩
end Go.Proofs.YtpigjapbhbdhbaaGreatDoor

