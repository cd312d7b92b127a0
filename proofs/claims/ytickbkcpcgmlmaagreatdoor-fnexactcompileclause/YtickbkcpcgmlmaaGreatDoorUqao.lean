/- Texts of CcP, CcQ, CcR, CaA, ClM, CcM, CcN. Own work of the verifier. -/
import Derived.Test.YtickbkcpcgmlmaaGreatDoorUqai
import Derived.Test.YtickbkcpcgmlmaaGreatDoorUqal
import Derived.Test.YtickbkcpcgmlmaaGreatDoorUqan
namespace Go.Proofs.YtickbkcpcgmlmaaGreatDoor
set_option linter.unusedVariables false
section
open Go Go.RowKit
structure KS where
 out : List Iv
 reg : List (Option Int)
 nx : Nat
def insN (op r a : Int) : Iv := ⟨op, r, a, Cel.none, [], []⟩
def insC (op r a : Int) (c : Cel) : Iv := ⟨op, r, a, c, [], []⟩
def KS.put (s : KS) (i : Iv) : KS := { s with out := s.out ++ [i] }
def KS.take (s : KS) : KS := { s with nx := s.nx + 1 }
def prmK (C : List Int) (v : Nat) : Int := -1 - (((C.take v).filter (fun x => decide (x = 2))).length : Int)
def prmN (C : List Int) : Nat := (C.filter (fun x => decide (x = 2))).length
def regK (C : List Int) (s : KS) (v : Nat) : Int × Bool × KS :=
 match s.reg.getD v none with
 | some r => (r, false, s)
 | none => if C.getD v 0 = 2 then (prmK C v, true, { s with reg := s.reg.set v (some (prmK C v)) }) else ((s.nx : Int), true, { s with reg := s.reg.set v (some (s.nx : Int)), nx := s.nx + 1 })
structure AO where
 first : Int
 again : Int
 const : Int
 void : Int
def getJ : AO := ⟨0, 1, 2, 0⟩
def uniJ : AO := ⟨4, 5, 6, 7⟩
def putJ : AO := ⟨8, 9, 10, 11⟩
def setJ : AO := ⟨13, 14, 15, 16⟩
def vcl (C : List Int) (c : Cel) : Int := C.getD c.2.1.toNat 0
def argK (C : List Int) (o : AO) (s : KS) (c : Cel) (a : Int) : KS :=
 if c.1 = 0 then
  (if vcl C c = 0 then s.put (insN o.void 0 a)
   else (regK C s c.2.1.toNat).2.2.put (insN (if (regK C s c.2.1.toNat).2.1 then o.first else o.again) (regK C s c.2.1.toNat).1 a))
 else s.put (insC o.const 0 a c)
def apaK (C : List Int) : KS → List (Tr × Int) → List Tr → KS × List (Tr × Int)
 | s, q, [] => (s, q)
 | s, q, t :: ts => if t.1.1 = 3 then apaK C (s.take.put (insN 4 s.nx 0)) (q ++ [(t, (s.nx : Int))]) ts else apaK C (argK C uniJ s t.1 0) q ts
def getK (C : List Int) : Nat → KS → List (Tr × Int) → KS
 | 0, s, _ => s
 | f + 1, s, [] => s
 | f + 1, s, x :: q => getK C f (apaK C (s.put (insC 3 0 x.2 x.1.1)) q (trs x.1.2)).1 (apaK C (s.put (insC 3 0 x.2 x.1.1)) q (trs x.1.2)).2
def innK (g : KS → Tr → Int → KS) : KS → List Tr → KS × List Int
 | s, [] => (s, [])
 | s, t :: ts => if t.1.1 = 3 then ((innK g (g s.take t s.nx) ts).1, (s.nx : Int) :: (innK g (g s.take t s.nx) ts).2) else ((innK g s ts).1, 0 :: (innK g s ts).2)
def stpK (C : List Int) (s : KS) (t : Tr) (r : Int) : KS := if t.1.1 = 3 then s.put (insN 14 r 0) else argK C setJ s t.1 0
def setK (C : List Int) : KS → List Tr → List Int → KS
 | s, [], _ => s
 | s, t :: ts, rs => setK C (stpK C s t (rs.headD 0)) ts rs.tail
def bldK (C : List Int) : Nat → KS → Tr → Int → KS
 | 0, s, _, _ => s
 | f + 1, s, t, r => setK C ((innK (bldK C f) s (trs t.2)).1.put (insC 12 r 0 t.1)) (trs t.2) (innK (bldK C f) s (trs t.2)).2
def hedK (C : List Int) (f : Nat) (s : KS) (t : Tr) (a : Int) : KS := if t.1.1 = 3 then getK C f s [(t, a)] else if t.1.1 = 0 ∧ vcl C t.1 = 0 then s else argK C getJ s t.1 a
def golK (C : List Int) (f : Nat) (s : KS) (t : Tr) (a : Int) : KS := if t.1.1 = 3 then bldK C f s t a else argK C putJ s t.1 a
def alls (g : KS → Tr → Int → KS) : Int → KS → List Tr → KS
 | _, s, [] => s
 | i, s, t :: ts => alls g (i + 1) (g s t i) ts
def namC (c : Cel) : Cel := (c.1, if c.1 = 3 then c.2.1 else 0, c.2.2)
def spcO (c : Cel) : Int := if c.2.2 = lvlN then 23 else if c.2.2 = mrkN then 24 else 25
def choK (C : List Int) (s : KS) (c : Cel) : Int × KS := if vcl C c = 0 then (255, s) else ((regK C s c.2.1.toNat).1, (regK C s c.2.1.toNat).2.2)
def gol1 (C : List Int) (f : Nat) (s : KS) (g : Tr) (last : Bool) : KS :=
 if spcC g.1 then (choK C s (kid0 g).1).2.put (insN (spcO g.1) (choK C s (kid0 g).1).1 0)
 else if buC g.1 then (alls (golK C f) 0 s (trs g.2)).put (insC 22 0 0 (namC g.1))
 else if last then alls (golK C f) 0 s (trs g.2) else (alls (golK C f) 0 s (trs g.2)).put (insC 19 0 0 (namC g.1))
def golsK (C : List Int) (f : Nat) : KS → List Tr → KS
 | s, [] => s
 | s, g :: gs => golsK C f (gol1 C f s g gs.isEmpty) gs
def envB : List Tr → Bool
 | [] => false
 | g :: gs => (!inlG g && !gs.isEmpty) || envB gs
def ariT (c : Cel) : Nat := if c.1 = 3 then c.2.1.toNat else 0
def ariM (h : Tr) (gs : List Tr) : Nat := gs.foldl (fun m g => max m (ariT g.1)) (ariT h.1)
def endJ : List Tr → Iv
 | [] => insN 21 0 0
 | g :: gs => if gs = [] then (if inlG g then insN 21 0 0 else insC 20 0 0 (namC g.1)) else endJ gs
def cc0 (C : List Int) (h : Tr) (gs : List Tr) : KS := ⟨if envB gs then [insN 17 0 (prmN C)] else [], List.replicate C.length none, ariM h gs⟩
def ccA (C : List Int) (f : Nat) (h : Tr) (gs : List Tr) : KS := golsK C f (alls (hedK C f) 0 (cc0 C h gs) (trs h.2)) gs
def ccK (C : List Int) (f : Nat) (h : Tr) (gs : List Tr) : KS := ((if envB gs then (ccA C f h gs).put (insN 18 0 0) else ccA C f h gs)).put (endJ gs)
def KS.low (s : KS) : Prop := ∀ v r, s.reg.getD v none = some r → -3000 ≤ r ∧ r ≤ (s.nx : Int)
structure Kup (d : Nat) (s s' : KS) : Prop where
 out : s'.out.length ≤ s.out.length + d
 nx : s.nx ≤ s'.nx ∧ s'.nx ≤ s.nx + d
 reg : s'.reg.length = s.reg.length
 low : s.low → s'.low
theorem Kup.refl (s : KS) : Kup 0 s s := ⟨Nat.le_refl _, ⟨Nat.le_refl _, Nat.le_refl _⟩, rfl, id⟩
theorem Kup.trans {d e : Nat} {s s1 s2 : KS} (h : Kup d s s1) (k : Kup e s1 s2) : Kup (d + e) s s2 := ⟨by have := h.out; have := k.out; omega, by have := h.nx; have := k.nx; omega, k.reg.trans h.reg, fun x => k.low (h.low x)⟩
theorem Kup.mono {d e : Nat} {s s' : KS} (h : Kup d s s') (hd : d ≤ e) : Kup e s s' := ⟨by have := h.out; omega, by have := h.nx; omega, h.reg, h.low⟩
theorem up_put (s : KS) (i : Iv) : Kup 1 s (s.put i) := ⟨by simp [KS.put], ⟨Nat.le_refl _, Nat.le_add_right _ _⟩, rfl, id⟩
theorem up_take (s : KS) : Kup 1 s s.take := ⟨Nat.le_add_right _ _, ⟨Nat.le_add_right _ _, Nat.le_refl _⟩, rfl, fun h v r hv => by have := h v r hv; exact ⟨this.1, by have := this.2; simp only [KS.take]; omega⟩⟩
theorem up_takeput (s : KS) (i : Iv) : Kup 1 s (s.take.put i) := ⟨by simp [KS.put, KS.take], ⟨by simp [KS.put, KS.take], by simp [KS.put, KS.take]⟩, rfl, (up_take s).low⟩
theorem prmK_low (C : List Int) (hC : C.length ≤ 2000) (v : Nat) : -3000 ≤ prmK C v ∧ prmK C v ≤ -1 := by
 have h1 := List.length_filter_le (fun x => decide (x = 2)) (C.take v)
 have h2 : (C.take v).length ≤ C.length := by simp [List.length_take]; omega
 unfold prmK; omega
theorem getD_setO (l : List (Option Int)) (i j : Nat) (x : Option Int) : (l.set i x).getD j none = if j = i ∧ i < l.length then x else l.getD j none := by
 simp only [List.getD_eq_getElem?_getD, List.getElem?_set]
 by_cases h : i = j
 ·subst h
  by_cases hl : i < l.length
  ·simp [hl]
  ·simp [hl]
 ·simp [h, show ¬ j = i from fun e => h e.symm]
theorem regK_some (C : List Int) (s : KS) (v : Nat) {r : Int} (h : s.reg.getD v none = some r) : regK C s v = (r, false, s) := by unfold regK; rw [h]
theorem regK_perm (C : List Int) (s : KS) (v : Nat) (h : s.reg.getD v none = none) (hc : C.getD v 0 = 2) : regK C s v = (prmK C v, true, { s with reg := s.reg.set v (some (prmK C v)) }) := by unfold regK; rw [h]; exact if_pos hc
theorem regK_temp (C : List Int) (s : KS) (v : Nat) (h : s.reg.getD v none = none) (hc : ¬ C.getD v 0 = 2) : regK C s v = ((s.nx : Int), true, { s with reg := s.reg.set v (some (s.nx : Int)), nx := s.nx + 1 }) := by unfold regK; rw [h]; exact if_neg hc
theorem regK_cases (C : List Int) (s : KS) (v : Nat) : (∃ r, s.reg.getD v none = some r ∧ regK C s v = (r, false, s)) ∨ (s.reg.getD v none = none ∧ C.getD v 0 = 2 ∧ regK C s v = (prmK C v, true, { s with reg := s.reg.set v (some (prmK C v)) })) ∨
  (s.reg.getD v none = none ∧ ¬ C.getD v 0 = 2 ∧ regK C s v = ((s.nx : Int), true, { s with reg := s.reg.set v (some (s.nx : Int)), nx := s.nx + 1 })) := by
 cases h : s.reg.getD v none with
 | some r => exact .inl ⟨r, rfl, regK_some C s v h⟩
 | none =>
   by_cases hc : C.getD v 0 = 2
   ·exact .inr (.inl ⟨rfl, hc, regK_perm C s v h hc⟩)
   ·exact .inr (.inr ⟨rfl, hc, regK_temp C s v h hc⟩)
theorem reg_out (C : List Int) (s : KS) (v : Nat) : (regK C s v).2.2.out = s.out := by
 rcases regK_cases C s v with ⟨r, _, e⟩ | ⟨_, _, e⟩ | ⟨_, _, e⟩ <;> rw [e]
theorem up_reg (C : List Int) (hC : C.length ≤ 2000) (s : KS) (v : Nat) : Kup 1 s (regK C s v).2.2 := by
 have hp := prmK_low C hC v
 rcases regK_cases C s v with ⟨r, _, e⟩ | ⟨_, _, e⟩ | ⟨_, _, e⟩ <;> rw [e]
 ·exact (Kup.refl s).mono (Nat.zero_le _)
 ·refine ⟨Nat.le_add_right _ _, ⟨Nat.le_refl _, Nat.le_add_right _ _⟩, by simp, fun h u r hu => ?_⟩
  simp only [getD_setO] at hu
  split at hu
  ·cases hu; exact ⟨hp.1, by have := hp.2; show _ ≤ (s.nx : Int); omega⟩
  ·exact h u r hu
 ·refine ⟨Nat.le_add_right _ _, ⟨Nat.le_add_right _ _, Nat.le_refl _⟩, by simp, fun h u r hu => ?_⟩
  simp only [getD_setO] at hu
  split at hu
  ·cases hu; exact ⟨by omega, by show _ ≤ ((s.nx + 1 : Nat) : Int); omega⟩
  ·have := h u r hu; exact ⟨this.1, by have := this.2; show _ ≤ ((s.nx + 1 : Nat) : Int); omega⟩
theorem up_arg (C : List Int) (hC : C.length ≤ 2000) (o : AO) (s : KS) (c : Cel) (a : Int) : Kup 1 s (argK C o s c a) := by
 unfold argK
 split
 ·split
  ·exact up_put _ _
  ·have h := up_reg C hC s c.2.1.toNat
   exact ⟨by simp [KS.put, reg_out], h.nx, h.reg, h.low⟩
 ·exact up_put _ _
theorem up_apa (C : List Int) (hC : C.length ≤ 2000) : ∀ (ts : List Tr) (s : KS) (q : List (Tr × Int)), Kup ts.length s (apaK C s q ts).1
 | [], s, q => Kup.refl s
 | t :: ts, s, q => by
   unfold apaK
   split
   ·exact ((up_takeput s _).trans (up_apa C hC ts _ _)).mono (by simp; omega)
   ·exact ((up_arg C hC _ s _ _).trans (up_apa C hC ts _ _)).mono (by simp; omega)
def twK (t : Tr) : Nat := 1 + 2 * t.2.cells.length
def twsK : List Tr → Nat
 | [] => 0
 | t :: ts => twK t + twsK ts
def qwK : List (Tr × Int) → Nat
 | [] => 0
 | x :: q => twK x.1 + qwK q
theorem qwK_append : ∀ (a b : List (Tr × Int)), qwK (a ++ b) = qwK a + qwK b
 | [], b => by simp [qwK]
 | x :: a, b => by simp only [List.cons_append, qwK, qwK_append a b]; omega
theorem trs_cellsK : ∀ F : Fo, (trs F).length + twsK (trs F) ≤ 2 * F.cells.length
 | .nil => by simp [trs, twsK, Fo.cells]
 | .node c k r => by
   have := trs_cellsK r; simp only [trs, List.length_cons, twsK, twK, Fo.cells, List.length_cons, List.length_append]; omega
theorem qwK_apa (C : List Int) : ∀ (ts : List Tr) (s : KS) (q : List (Tr × Int)), qwK (apaK C s q ts).2 ≤ qwK q + twsK ts
 | [], s, q => by simp [apaK, twsK]
 | t :: ts, s, q => by
   unfold apaK
   split
   ·have := qwK_apa C ts (s.take.put (insN 4 s.nx 0)) (q ++ [(t, (s.nx : Int))])
    rw [qwK_append] at this; simp only [qwK, twsK] at this ⊢; omega
   ·have := qwK_apa C ts (argK C uniJ s t.1 0) q
    simp only [twsK]; omega
theorem up_get (C : List Int) (hC : C.length ≤ 2000) : ∀ (f : Nat) (s : KS) (q : List (Tr × Int)), Kup (qwK q) s (getK C f s q)
 | 0, s, q => (Kup.refl s).mono (Nat.zero_le _)
 | f + 1, s, [] => Kup.refl s
 | f + 1, s, x :: q => by
   unfold getK
   have h1 := up_apa C hC (trs x.1.2) (s.put (insC 3 0 x.2 x.1.1)) q; have h2 := up_get C hC f (apaK C (s.put (insC 3 0 x.2 x.1.1)) q (trs x.1.2)).1 (apaK C (s.put (insC 3 0 x.2 x.1.1)) q (trs x.1.2)).2; have h3 := qwK_apa C (trs x.1.2) (s.put (insC 3 0 x.2 x.1.1)) q; have h4 := trs_cellsK x.1.2; exact (((up_put s _).trans h1).trans h2).mono (by simp only [qwK, twK]; omega)
theorem inn_len (g : KS → Tr → Int → KS) : ∀ (ts : List Tr) (s : KS), (innK g s ts).2.length = ts.length
 | [], s => rfl
 | t :: ts, s => by unfold innK; split <;> simp [inn_len g ts]
theorem up_stp (C : List Int) (hC : C.length ≤ 2000) (s : KS) (t : Tr) (r : Int) : Kup 1 s (stpK C s t r) := by
 unfold stpK; split
 ·exact up_put _ _
 ·exact up_arg C hC _ _ _ _
theorem up_set (C : List Int) (hC : C.length ≤ 2000) : ∀ (ts : List Tr) (s : KS) (rs : List Int), Kup ts.length s (setK C s ts rs)
 | [], s, rs => Kup.refl s
 | t :: ts, s, rs => ((up_stp C hC s t _).trans (up_set C hC ts _ _)).mono (by simp; omega)
def bwK (t : Tr) : Nat := 1 + 3 * t.2.cells.length
def bwsK : List Tr → Nat
 | [] => 0
 | t :: ts => bwK t + bwsK ts
theorem trs_cellsB : ∀ F : Fo, 2 * (trs F).length + bwsK (trs F) ≤ 3 * F.cells.length
 | .nil => by simp [trs, bwsK, Fo.cells]
 | .node c k r => by
   have := trs_cellsB r; simp only [trs, List.length_cons, bwsK, bwK, Fo.cells, List.length_cons, List.length_append]; omega
theorem up_innB (C : List Int) (hC : C.length ≤ 2000) (g : KS → Tr → Int → KS) (hg : ∀ s t r, Kup (bwK t) s (g s t r)) : ∀ (ts : List Tr) (s : KS), Kup (ts.length + bwsK ts) s (innK g s ts).1
 | [], s => Kup.refl s
 | t :: ts, s => by
   unfold innK
   split
   ·exact (((up_take s).trans (hg s.take t s.nx)).trans (up_innB C hC g hg ts _)).mono (by simp only [List.length_cons, bwsK]; omega)
   ·exact (up_innB C hC g hg ts s).mono (by simp only [List.length_cons, bwsK]; omega)
theorem up_bld (C : List Int) (hC : C.length ≤ 2000) : ∀ (f : Nat) (s : KS) (t : Tr) (r : Int), Kup (bwK t) s (bldK C f s t r)
 | 0, s, t, r => (Kup.refl s).mono (Nat.zero_le _)
 | f + 1, s, t, r => by
   unfold bldK
   have h1 := up_innB C hC (bldK C f) (up_bld C hC f) (trs t.2) s; have h2 := up_set C hC (trs t.2) ((innK (bldK C f) s (trs t.2)).1.put (insC 12 r 0 t.1)) (innK (bldK C f) s (trs t.2)).2; have h4 := trs_cellsB t.2; exact ((h1.trans (up_put _ _)).trans h2).mono (by simp only [bwK]; omega)
theorem mem_trs_cells : ∀ (F : Fo) (t : Tr), t ∈ trs F → t.2.cells.length + 1 ≤ F.cells.length
 | .nil, t, h => by simp [trs] at h
 | .node c k r, t, h => by
   rcases List.mem_cons.1 h with rfl | h
   ·simp [Fo.cells]
   ·have := mem_trs_cells r t h; simp only [Fo.cells, List.length_cons, List.length_append]; omega
theorem up_hed (C : List Int) (hC : C.length ≤ 2000) (f : Nat) (s : KS) (t : Tr) (a : Int) : Kup (bwK t) s (hedK C f s t a) := by
 unfold hedK; split
 ·exact (up_get C hC f s [(t, a)]).mono (by simp only [qwK, twK, bwK]; omega)
 ·split
  ·exact (Kup.refl s).mono (Nat.zero_le _)
  ·exact (up_arg C hC _ s _ _).mono (by unfold bwK; omega)
theorem up_gol (C : List Int) (hC : C.length ≤ 2000) (f : Nat) (s : KS) (t : Tr) (a : Int) : Kup (bwK t) s (golK C f s t a) := by
 unfold golK; split
 ·exact up_bld C hC f s t a
 ·exact (up_arg C hC _ s _ _).mono (by unfold bwK; omega)
theorem up_alls (g : KS → Tr → Int → KS) (hg : ∀ s t r, Kup (bwK t) s (g s t r)) : ∀ (ts : List Tr) (i : Int) (s : KS), Kup (bwsK ts) s (alls g i s ts)
 | [], i, s => Kup.refl s
 | t :: ts, i, s => (hg s t i).trans (up_alls g hg ts (i + 1) _)
theorem up_cho (C : List Int) (hC : C.length ≤ 2000) (s : KS) (c : Cel) : Kup 1 s (choK C s c).2 := by
 unfold choK; split
 ·exact (Kup.refl s).mono (Nat.zero_le _)
 ·exact up_reg C hC s _
theorem up_gol1 (C : List Int) (hC : C.length ≤ 2000) (f : Nat) (s : KS) (g : Tr) (l : Bool) : Kup (2 + 3 * g.2.cells.length) s (gol1 C f s g l) := by
 have h := up_alls (golK C f) (up_gol C hC f) (trs g.2) 0 s; have h4 := trs_cellsB g.2
 unfold gol1; split
 ·exact ((up_cho C hC s _).trans (up_put _ _)).mono (by omega)
 ·split
  ·exact (h.trans (up_put _ _)).mono (by omega)
  ·split
   ·exact h.mono (by omega)
   ·exact (h.trans (up_put _ _)).mono (by omega)
def St0 (st : List Int × List Int) : Prop := (∀ x ∈ st.1, x ≠ 2) ∧ ∀ x ∈ st.2, x = 0
theorem mem_setK {l : List Int} {i : Nat} {a x : Int} (h : x ∈ l.set i a) : x = a ∨ x ∈ l := by
 rcases List.mem_or_eq_of_mem_set h with h | h
 ·exact .inr h
 ·exact .inl h
theorem getD0 {l : List Int} (h : ∀ x ∈ l, x = 0) (i : Nat) : l.getD i 0 = 0 := by
 rw [List.getD_eq_getElem?_getD]
 cases e : l[i]? with
 | none => rfl
 | some y => exact h y (List.mem_of_getElem? e)
theorem st0_meet {st : List Int × List Int} (h : St0 st) (v : Int) : St0 (meetP 0 st v) := by
 unfold meetP
 split
 ·refine ⟨fun x hx => ?_, fun x hx => ?_⟩
  ·rcases List.mem_append.1 hx with hx | hx
   ·exact h.1 x hx
   ·simp at hx; omega
  ·rcases List.mem_append.1 hx with hx | hx
   ·exact h.2 x hx
   ·simpa using hx
 ·split
  ·rename_i hne; exact absurd (getD0 h.2 _) hne
  ·refine ⟨fun x hx => ?_, h.2⟩
   rcases mem_setK hx with rfl | hx
   ·omega
   ·exact h.1 x hx
theorem st0_meets : ∀ (vs : List Int) {st : List Int × List Int}, St0 st → St0 (meetsP 0 st vs)
 | [], st, h => h
 | v :: vs, st, h => st0_meets vs (st0_meet h v)
theorem st0_goals : ∀ (gs : List Tr) {st : List Int × List Int}, St0 st → envB gs = false → St0 (goalsP 0 st gs)
 | [], st, h, _ => h
 | g :: gs, st, h, he => by
   unfold goalsP
   simp only [envB, Bool.or_eq_false_iff, Bool.and_eq_false_iff, Bool.not_eq_false'] at he
   cases gs with
   | nil => exact st0_meets _ h
   | cons x r =>
     have hi : inlG g = true := by
      rcases he.1 with h1 | h1
      ·exact h1
      ·simp at h1
     rw [if_pos hi]; exact st0_goals _ (st0_meets _ h) he.2
theorem prm_env (t : Tr) (h : envB (goalsT (kid1 t)) = false) : prmN (classP t) = 0 := by
 have h0 : St0 (goalsP 0 (meetsP 0 ([], []) (vsC ((kid0 t).1 :: (kid0 t).2.cells))) (goalsT (kid1 t))) := st0_goals _ (st0_meets _ ⟨fun x hx => by simp at hx, fun x hx => by simp at hx⟩) h
 unfold prmN classP
 rw [List.length_eq_zero_iff, List.filter_eq_nil_iff]
 intro x hx
 simpa using h0.1 x hx
def St3 (st : List Int × List Int) : Prop := ∀ x ∈ st.1, x = 0 ∨ x = 1 ∨ x = 2
theorem st3_meet {st : List Int × List Int} (h : St3 st) (q v : Int) : St3 (meetP q st v) := by
 unfold meetP
 split
 ·intro x hx
  rcases List.mem_append.1 hx with hx | hx
  ·exact h x hx
  ·simp at hx; omega
 ·split
  ·intro x hx
   rcases mem_setK hx with rfl | hx
   ·omega
   ·exact h x hx
  ·intro x hx
   rcases mem_setK hx with rfl | hx
   ·omega
   ·exact h x hx
theorem st3_meets (q : Int) : ∀ (vs : List Int) {st : List Int × List Int}, St3 st → St3 (meetsP q st vs)
 | [], st, h => h
 | v :: vs, st, h => st3_meets q vs (st3_meet h q v)
theorem st3_goals : ∀ (gs : List Tr) (q : Int) {st : List Int × List Int}, St3 st → St3 (goalsP q st gs)
 | [], q, st, h => h
 | g :: gs, q, st, h => by unfold goalsP; exact st3_goals gs _ (st3_meets q _ h)
theorem class3 (t : Tr) (v : Nat) : (classP t).getD v 0 = 0 ∨ (classP t).getD v 0 = 1 ∨ (classP t).getD v 0 = 2 := by
 have h0 : St3 (goalsP 0 (meetsP 0 ([], []) (vsC ((kid0 t).1 :: (kid0 t).2.cells))) (goalsT (kid1 t))) := st3_goals _ _ (st3_meets _ _ fun x hx => by simp at hx); rw [List.getD_eq_getElem?_getD]
 cases e : (classP t)[v]? with
 | none => exact .inl rfl
 | some y => exact h0 y (List.mem_of_getElem? e)
theorem callable_any {w : World} {q : Option Addr} {n c : Nat} {t : Tr} (h : TI w q n c t) (hn : n ≤ 1000000) :
  Calls Tryz.prog 41 #[.slice q n c] w fun e w' => e = .returned (.bool (calC t.1)) ∧ w' = w := by
 obtain ⟨b, o, q1, qc, rfl, d0, d1, d2, d3⟩ := h.head
 have hn0 : 0 < n := by have := h.1; omega
 have HE : Hid (calC t.1 = ((t.1.1 == 2) || (t.1.1 == 3))) := by
  show _ = _
  unfold calC
  rw [Bool.eq_iff_iff]
  simp
 rw [HE.out]
 generalize t.1.1 = k at d0 ⊢
 clear h d1 d2 d3 HE
 cases h2 : (k == 2) with
 | true =>
   go_enter Tryz.func41, Tryz.ntmps41
   go_wp2_with fail; go_ret; exact ⟨rfl, rfl⟩
 | false =>
   go_enter Tryz.func41, Tryz.ntmps41
   go_wp2_with fail; go_ret; exact ⟨by simp, rfl⟩
theorem arity_any {w : World} {q : Option Addr} {n c : Nat} {t : Tr} (h : TI w q n c t) (hn : n ≤ 1000000) :
  Calls Tryz.prog 16 #[.slice q n c] w fun e w' => e = .returned (.int .i64 (fA t.1)) ∧ w' = w := by
 obtain ⟨b, o, q1, qc, rfl, d0, d1, d2, d3⟩ := h.head
 have hn0 : 0 < n := by have := h.1; omega
 by_cases h3 : t.1.1 = 3
 ·have e : fA t.1 = t.1.2.1 := by unfold fA; rw [if_pos h3]
  rw [e]; rw [h3] at d0
  generalize t.1.2.1 = m at d1 ⊢
  clear h d2 d3 h3 e
  go_enter Tryz.func16, Tryz.ntmps16
  go_wp2_with fail; go_ret; exact ⟨rfl, rfl⟩
 ·have e : fA t.1 = 0 := by unfold fA; rw [if_neg h3]
  rw [e]
  generalize t.1.1 = k at d0 h3
  clear h d1 d2 d3 e
  go_enter Tryz.func16, Tryz.ntmps16
  go_wp2_with fail; go_ret; exact ⟨rfl, rfl⟩
theorem special_any {w : World} {q : Option Addr} {n c : Nat} {t : Tr} (h : TI w q n c t) (hb : Byte t.1.2.2) :
  Calls Tryz.prog 45 #[.slice q n c] w fun e w' => e = .returned (.bool (spcC t.1)) ∧ w' = w := by
 have H1 := isT_any h ⟨#[36, 108, 101, 118, 101, 108]⟩ 1; have H2 := isT_any h ⟨#[36, 109, 97, 114, 107]⟩ 1; have H3 := isT_any h ⟨#[36, 99, 117, 116]⟩ 1; have e1 := isB_pos hb [36, 108, 101, 118, 101, 108] 1 (by decide); have e2 := isB_pos hb [36, 109, 97, 114, 107] 1 (by decide); have e3 := isB_pos hb [36, 99, 117, 116] 1 (by decide)
 have HE : Hid (spcC t.1 = (isB (strOfNums t.1.2.2) ⟨#[36, 108, 101, 118, 101, 108]⟩ t.1.1 t.1.2.1 1 || (isB (strOfNums t.1.2.2) ⟨#[36, 109, 97, 114, 107]⟩ t.1.1 t.1.2.1 1 || isB (strOfNums t.1.2.2) ⟨#[36, 99, 117, 116]⟩ t.1.1 t.1.2.1 1))) := by
  show _ = _
  rw [Bool.eq_iff_iff, spc_iff]; have e1' : isB (strOfNums t.1.2.2) ⟨#[36, 108, 101, 118, 101, 108]⟩ t.1.1 t.1.2.1 1 = decide (t.1 = (3, 1, lvlN)) := e1; have e2' : isB (strOfNums t.1.2.2) ⟨#[36, 109, 97, 114, 107]⟩ t.1.1 t.1.2.1 1 = decide (t.1 = (3, 1, mrkN)) := e2; have e3' : isB (strOfNums t.1.2.2) ⟨#[36, 99, 117, 116]⟩ t.1.1 t.1.2.1 1 = decide (t.1 = (3, 1, cutN)) := e3; rw [e1', e2', e3']
  simp
 rw [HE.out]; clear e1 e2 e3 h hb HE
 generalize isB (strOfNums t.1.2.2) ⟨#[36, 108, 101, 118, 101, 108]⟩ t.1.1 t.1.2.1 1 = r1 at H1 ⊢
 generalize isB (strOfNums t.1.2.2) ⟨#[36, 109, 97, 114, 107]⟩ t.1.1 t.1.2.1 1 = r2 at H2 ⊢
 generalize isB (strOfNums t.1.2.2) ⟨#[36, 99, 117, 116]⟩ t.1.1 t.1.2.1 1 = r3 at H3 ⊢
 cases r1 with
 | true =>
   go_enter Tryz.func45, Tryz.ntmps45
   go_wp2_with fail; refine H1.mono ?_; rintro e w1 ⟨rfl, rfl⟩; go_wp2_with fail; go_ret; exact ⟨rfl, rfl⟩
 | false =>
   cases r2 with
   | true =>
     go_enter Tryz.func45, Tryz.ntmps45
     go_wp2_with fail; refine H1.mono ?_; rintro e w1 ⟨rfl, rfl⟩; go_wp2_with fail; refine H2.mono ?_; rintro e w2 ⟨rfl, rfl⟩; go_wp2_with fail; go_ret; exact ⟨rfl, rfl⟩
   | false =>
     go_enter Tryz.func45, Tryz.ntmps45
     go_wp2_with fail; refine H1.mono ?_; rintro e w1 ⟨rfl, rfl⟩; go_wp2_with fail; refine H2.mono ?_; rintro e w2 ⟨rfl, rfl⟩; go_wp2_with fail; refine H3.mono ?_; rintro e w3 ⟨rfl, rfl⟩; go_wp2_with fail; go_ret; exact ⟨by simp, rfl⟩
theorem con_tree {c : Cel} {k : Fo} (hok : (Fo.node c k .nil).ok) (hc : calC c = true) : con7 (strOfNums c.2.2) c.1 c.2.1 = conG c := by
 have hcb := hok.1; simp only [cellB, decide_eq_true_eq] at hcb
 unfold calC at hc
 rw [decide_eq_true_eq] at hc
 have hpos : c.1 = 3 → 1 ≤ c.2.1 := fun h => by omega
 unfold con7 conG conB isB
 generalize (strOfNums c.2.2).toList = l
 have l0 : ∀ x : List UInt8, (ByteArray.mk x.toArray).toList = x := fun x => by rw [ByteArray.toList_eq]
 have m1 : (⟨#[44]⟩ : ByteArray).toList = [44] := l0 [44]; have m2 : (⟨#[59]⟩ : ByteArray).toList = [59] := l0 [59]; have m3 : (⟨#[45, 62]⟩ : ByteArray).toList = [45, 62] := l0 [45, 62]; have m4 : (⟨#[92, 43]⟩ : ByteArray).toList = [92, 43] := l0 [92, 43]; have m5 : (⟨#[111, 110, 99, 101]⟩ : ByteArray).toList = [111, 110, 99, 101] := l0 [111, 110, 99, 101]; have m6 : (⟨#[102, 111, 114, 97, 108, 108]⟩ : ByteArray).toList = [102, 111, 114, 97, 108, 108] := l0 [102, 111, 114, 97, 108, 108]; have m7 : (⟨#[33]⟩ : ByteArray).toList = [33] := l0 [33]; rw [m1, m2, m3, m4, m5, m6, m7]; have k2 : ((2 : Int) == 0) = false := rfl; have k1 : ((1 : Int) == 0) = false := rfl; have k0 : ((0 : Int) == 0) = true := rfl; simp only [k2, k1, k0, Bool.false_eq_true, if_false, if_true]
 rcases hc with h | h
 ·have hn : c.2.1 = 0 := by omega
  rw [h, hn]; have a1 : ((2 : Int) == 3) = false := rfl; have a2 : ((0 : Int) == 2) = false := rfl; have a3 : ((0 : Int) == 1) = false := rfl; have a4 : ((2 : Int) == 2) = true := rfl; simp only [a1, a2, a3, a4, k0, Bool.and_false, Bool.false_or, Bool.and_true]
  by_cases e : l = [33]
  ·subst e; rfl
  ·have e' : (l == [33]) = false := beq_eq_false_iff_ne.2 e
   rw [e']
   split <;> first | rfl | (split <;> rfl)
 ·have hn := hpos h
  have z : (c.2.1 == 0) = false := by rw [beq_eq_false_iff_ne]; omega
  have a4 : ((3 : Int) == 2) = false := rfl; have a5 : ((3 : Int) == 3) = true := rfl; rw [h, z]; simp only [a4, a5, Bool.true_and, Bool.and_false, Bool.or_false]
  by_cases e1 : l = [44]
  ·subst e1; simp
  by_cases e2 : l = [59]
  ·subst e2; simp
  by_cases e3 : l = [45, 62]
  ·subst e3; simp
  by_cases e4 : l = [92, 43]
  ·subst e4; simp
  by_cases e5 : l = [111, 110, 99, 101]
  ·subst e5; simp
  by_cases e6 : l = [102, 111, 114, 97, 108, 108]
  ·subst e6; simp
  have f1 : (l == [44]) = false := beq_eq_false_iff_ne.2 e1; have f2 : (l == [59]) = false := beq_eq_false_iff_ne.2 e2; have f3 : (l == [45, 62]) = false := beq_eq_false_iff_ne.2 e3; have f4 : (l == [92, 43]) = false := beq_eq_false_iff_ne.2 e4; have f5 : (l == [111, 110, 99, 101]) = false := beq_eq_false_iff_ne.2 e5; have f6 : (l == [102, 111, 114, 97, 108, 108]) = false := beq_eq_false_iff_ne.2 e6
  simp [f1, f2, f3, f4, f5, f6]
theorem conM_any {w : World} {q : Option Addr} {n c : Nat} {t : Tr} (h : TI w q n c t) (hok : (Fo.node t.1 t.2 .nil).ok) (hc : calC t.1 = true) :
  Calls Tryz.prog 120 #[.slice q n c] w fun e w' => e = .returned (.bool (conG t.1)) ∧ w' = w := by
 obtain ⟨b, o, q1, qc, rfl, d0, d1, d2, d3⟩ := h.head; rw [← con_tree hok hc]; exact l8construct_any (strOfNums t.1.2.2) t.1.1 t.1.2.1 b o q1 _ qc n c w (by have := h.1; omega) d0 d1 d2 (conv_str d3 _ qc rfl 9 Tryz.underlying9)
end
section
open Go Go.RowKit
set_option linter.unusedSimpArgs false
abbrev ptrK (b : Nat) : Value := .pointer (some ⟨b, 0, none⟩)
structure CEnv (w1 : World) (cb gb eb : Nat) (pc : Option Addr) (cc : Nat) (C : List Int) : Prop where
 lt : cb < w1.heap.size ∧ gb < w1.heap.size ∧ eb < w1.heap.size
 ne : cb ≠ gb ∧ cb ≠ eb ∧ gb ≠ eb
 len : C.length ≤ 2000
 three : ∀ v, C.getD v 0 = 0 ∨ C.getD v 0 = 1 ∨ C.getD v 0 = 2
 cap : C.length ≤ cc
 cls : 0 < C.length → ∃ b o, pc = some ⟨b, o, none⟩ ∧ b ∉ [cb, gb, eb] ∧ ∀ v, v < C.length → w1.cell? ⟨b, o + v, none⟩ = some (.int .i64 (C.getD v 0))
def regM (C : List Int) (s : KS) (v : Nat) : Int := (s.reg.getD v none).getD (if C.getD v 0 = 2 then prmK C v else 0)
structure MK (Z : List Nat) (w1 : World) (cb gb eb : Nat) (pc : Option Addr) (cc : Nat) (C : List Int) (s : KS) (w : World) : Prop where
 sty : StyX [cb, gb, eb] w1 w
 c0 : ∃ p n c, w.cell? ⟨cb, 0, none⟩ = some (.slice p n c) ∧ OwnIv Z w w1.heap.size p n c s.out
 c1 : w.cell? ⟨cb, 1, none⟩ = some (.slice pc C.length cc)
 c2 : w.cell? ⟨cb, 2, none⟩ = some (.slice (some ⟨gb, 0, none⟩) C.length C.length)
 c3 : w.cell? ⟨cb, 3, none⟩ = some (.slice (some ⟨eb, 0, none⟩) C.length C.length)
 c4 : w.cell? ⟨cb, 4, none⟩ = some (.int .i64 s.nx)
 fz : ∀ b ∈ [cb, gb, eb], ∀ o, w.frozen? ⟨b, o, none⟩ = false
 rg : ∀ v, v < C.length → w.cell? ⟨gb, v, none⟩ = some (.int .i64 (regM C s v)) ∧ w.cell? ⟨eb, v, none⟩ = some (.bool (s.reg.getD v none).isSome)
 ln : s.reg.length = C.length
 lo : s.low
 lt : ∀ b ∈ [cb, gb, eb], b < w1.heap.size
 zl : ∀ z ∈ Z, z < w.heap.size
section
variable {Z : List Nat} {w1 : World} {cb gb eb : Nat} {pc : Option Addr} {cc : Nat} {C : List Int} {s : KS} {w : World}
theorem MK.below {w' : World} (h : MK Z w1 cb gb eb pc cc C s w) (hb : Below w.heap.size w w') : MK Z w1 cb gb eb pc cc C s w' := by
 have hc : ∀ p v, w.cell? p = some v → w'.cell? p = some v := fun p v h => (hb.cell (World.block_lt_of_cell? _ _ h)).trans h
 obtain ⟨p, n, c, h4, h5⟩ := h.c0; exact ⟨h.sty.below hb, ⟨p, n, c, hc _ _ h4, h5.below hb⟩, hc _ _ h.c1, hc _ _ h.c2, hc _ _ h.c3, hc _ _ h.c4, fun b hb' o => (hb.frozen (p := ⟨b, o, none⟩) (Nat.lt_of_lt_of_le (h.lt b hb') h.sty.size)).trans (h.fz b hb' o), fun v hv => ⟨hc _ _ (h.rg v hv).1, hc _ _ (h.rg v hv).2⟩, h.ln, h.lo, h.lt, fun z hz => Nat.lt_of_lt_of_le (h.zl z hz) hb.size⟩
theorem MK.own_set (h : MK Z w1 cb gb eb pc cc C s w) {b : Nat} (hb : b ∈ [cb, gb, eb]) (o : Nat) (v : Value) {p : Option Addr} {n c : Nat} (ho : OwnIv Z w w1.heap.size p n c s.out) : OwnIv Z (w.setCell ⟨b, o, none⟩ v) w1.heap.size p n c s.out :=
 ho.of (by simp) fun k hk _ => Below.heap_setCell _ _ _ _ (show k ≠ b by have := h.lt b hb; omega)
theorem cell_other {w : World} {b o q j : Nat} {v u : Value} (hc : w.cell? ⟨q, j, none⟩ = some u) (h : ¬ (q = b ∧ j = o)) : (w.setCell ⟨b, o, none⟩ v).cell? ⟨q, j, none⟩ = some u :=
 (World.cell?_setCell_other _ _ _ _ (fun e => h ⟨congrArg Addr.block e |>.symm, congrArg Addr.off e |>.symm⟩)).trans hc
theorem MK.next (E : CEnv w1 cb gb eb pc cc C) (h : MK Z w1 cb gb eb pc cc C s w) : MK Z w1 cb gb eb pc cc C s.take (w.setCell ⟨cb, 4, none⟩ (.int .i64 (s.nx + 1 : Nat))) := by
 obtain ⟨p, n, c, h0, ho⟩ := h.c0; have n1 := E.ne.1; have n2 := E.ne.2.1
 exact ⟨h.sty.set (by simp) _ _, ⟨p, n, c, cell_other h0 (by simp), h.own_set (by simp) _ _ ho⟩, cell_other h.c1 (by simp), cell_other h.c2 (by simp), cell_other h.c3 (by simp), World.cell?_setCell_same' _ _ _ (by rw [h.c4]; rfl), fun b hb o => by rw [World.frozen?_setCell]; exact h.fz b hb o,
  fun v hv => ⟨cell_other (h.rg v hv).1 (fun e => n1 e.1.symm), cell_other (h.rg v hv).2 (fun e => n2 e.1.symm)⟩, h.ln, (up_take s).low h.lo, h.lt, by simpa using h.zl⟩
theorem MK.put (E : CEnv w1 cb gb eb pc cc C) (h : MK Z w1 cb gb eb pc cc C s w) {p : Option Addr} {n c n' cap g : Nat} {w' : World} {i : Iv} (h0 : w.cell? ⟨cb, 0, none⟩ = some (.slice p n c)) (ho : OwnIv Z w w1.heap.size p n c s.out) (hg : w.grownBy w' (Value.ownBlock (.slice p n c))) (ho' : OwnIv Z w' w1.heap.size (some ⟨g, 0, none⟩) n' cap (s.out ++ [i])) :
  (w'.cell? ⟨cb, 0, none⟩ = some (.slice p n c) ∧ w'.frozen? ⟨cb, 0, none⟩ = false ∧ cb < w'.heap.size) ∧ MK Z w1 cb gb eb pc cc C (s.put i) (w'.setCell ⟨cb, 0, none⟩ (.slice (some ⟨g, 0, none⟩) n' cap)) ∧ FrX [cb, gb, eb] w (w'.setCell ⟨cb, 0, none⟩ (.slice (some ⟨g, 0, none⟩) n' cap)) := by
 have hX : ∀ b ∈ [cb, gb, eb], w'.heap[b]? = w.heap[b]? := fun b hb => hg.block b (Nat.lt_of_lt_of_le (h.lt b hb) h.sty.size) fun e => by
  obtain ⟨hn, rs, hl, hr, hf, ha⟩ := ho; have := (hr.lt b e.symm).1; have := h.lt b hb
  omega
 have hc : ∀ b ∈ [cb, gb, eb], ∀ j u, w.cell? ⟨b, j, none⟩ = some u → w'.cell? ⟨b, j, none⟩ = some u := fun b hb j u hu => (World.cell?_of_block (a := ⟨b, j, none⟩) (hX b hb)).trans hu
 have n1 := E.ne.1; have n2 := E.ne.2.1
 refine ⟨⟨hc cb (by simp) _ _ h0, (World.frozen?_of_block (a := ⟨cb, 0, none⟩) (hX cb (by simp))).trans (h.fz cb (by simp) 0), Nat.lt_of_lt_of_le (Nat.lt_of_lt_of_le E.lt.1 h.sty.size) hg.size⟩, ⟨(h.sty.grown ho hg).set (by simp) _ _, ⟨_, _, _, World.cell?_setCell_same' _ _ _ (by rw [hc cb (by simp) _ _ h0]; rfl), ho'.of (by simp) fun k hk _ => Below.heap_setCell _ _ _ _ (show k ≠ cb by have := E.lt.1; omega)⟩,
  cell_other (hc cb (by simp) _ _ h.c1) (by simp), cell_other (hc cb (by simp) _ _ h.c2) (by simp), cell_other (hc cb (by simp) _ _ h.c3) (by simp), cell_other (hc cb (by simp) _ _ h.c4) (by simp), fun b hb o => ?_, fun v hv => ⟨cell_other (hc gb (by simp) _ _ (h.rg v hv).1) (fun e => n1 e.1.symm), cell_other (hc eb (by simp) _ _ (h.rg v hv).2) (fun e => n2 e.1.symm)⟩, h.ln, h.lo, h.lt, fun z hz => by simpa using Nat.lt_of_lt_of_le (h.zl z hz) hg.size⟩, (FrX.grown ho hg).set (by simp) _ _⟩
 rw [World.frozen?_setCell]; exact (World.frozen?_of_block (a := ⟨b, o, none⟩) (hX b hb)).trans (h.fz b hb o)
theorem MK.cls (E : CEnv w1 cb gb eb pc cc C) (h : MK Z w1 cb gb eb pc cc C s w) {v : Nat} (hv : v < C.length) : ∃ b o, pc = some ⟨b, o, none⟩ ∧ w.cell? ⟨b, o + v, none⟩ = some (.int .i64 (C.getD v 0)) := by
 obtain ⟨b, o, e, hb, hc⟩ := E.cls (by omega); exact ⟨b, o, e, h.sty.cell (hc v hv) hb⟩
theorem MK.seen (E : CEnv w1 cb gb eb pc cc C) (h : MK Z w1 cb gb eb pc cc C s w) {v : Nat} (hv : v < C.length) (r : Int) (hr : w.cell? ⟨gb, v, none⟩ = some (.int .i64 r)) (hlo : -3000 ≤ r ∧ r ≤ (s.nx : Int)) : MK Z w1 cb gb eb pc cc C { s with reg := s.reg.set v (some r) } (w.setCell ⟨eb, v, none⟩ (.bool true)) := by
 obtain ⟨p, n, c, h0, ho⟩ := h.c0; have n2 := E.ne.2.1; have n3 := E.ne.2.2
 have hvl : v < s.reg.length := by rw [h.ln]; exact hv
 refine ⟨h.sty.set (by simp) _ _, ⟨p, n, c, cell_other h0 (fun e => n2 e.1), h.own_set (by simp) _ _ ho⟩, cell_other h.c1 (fun e => n2 e.1), cell_other h.c2 (fun e => n2 e.1), cell_other h.c3 (fun e => n2 e.1), cell_other h.c4 (fun e => n2 e.1), fun b hb o => by rw [World.frozen?_setCell]; exact h.fz b hb o,
  fun u hu => ?_, by simpa using h.ln, fun u x hx => ?_, h.lt, by simpa using h.zl⟩
 ·by_cases e : u = v
  ·subst e
   refine ⟨cell_other (by rw [hr]; congr 2; simp [regM, getD_setO, hvl]) (fun e => n3 e.1), ?_⟩; rw [World.cell?_setCell_same' _ _ _ (by rw [(h.rg u hu).2]; rfl)]
   simp [getD_setO, hvl]
  ·have er : ({ s with reg := s.reg.set v (some r) } : KS).reg.getD u none = s.reg.getD u none := by show (s.reg.set v (some r)).getD u none = _; rw [getD_setO, if_neg (fun q => e q.1)]
   refine ⟨cell_other (by rw [(h.rg u hu).1]; congr 2; unfold regM; rw [er]) (fun e => n3 e.1), ?_⟩; rw [er]; exact cell_other (h.rg u hu).2 (fun q => e q.2)
 ·simp only [getD_setO] at hx
  split at hx
  ·cases hx; exact hlo
  ·exact h.lo u x hx
theorem MK.reg (E : CEnv w1 cb gb eb pc cc C) (h : MK Z w1 cb gb eb pc cc C s w) {v : Nat} (hv : v < C.length) (hs : s.reg.getD v none = none) (r : Int) (hlo : -3000 ≤ r ∧ r ≤ (s.nx : Int)) : MK Z w1 cb gb eb pc cc C { s with reg := s.reg.set v (some r) } ((w.setCell ⟨gb, v, none⟩ (.int .i64 r)).setCell ⟨eb, v, none⟩ (.bool true)) := by
 obtain ⟨p, n, c, h0, ho⟩ := h.c0; have n1 := E.ne.1; have n2 := E.ne.2.1; have n3 := E.ne.2.2
 have hvl : v < s.reg.length := by rw [h.ln]; exact hv
 have ho1 := h.own_set (b := gb) (by simp) v (.int .i64 r) ho
 have ho2 : OwnIv Z ((w.setCell ⟨gb, v, none⟩ (.int .i64 r)).setCell ⟨eb, v, none⟩ (.bool true)) w1.heap.size p n c s.out := ho1.of (by simp) fun k hk _ => Below.heap_setCell _ _ _ _ (show k ≠ eb by have := E.lt.2.2; omega)
 have hcb : ∀ j u, w.cell? ⟨cb, j, none⟩ = some u → ((w.setCell ⟨gb, v, none⟩ (.int .i64 r)).setCell ⟨eb, v, none⟩ (.bool true)).cell? ⟨cb, j, none⟩ = some u := fun j u hu => cell_other (cell_other hu (fun e => n1 e.1)) (fun e => n2 e.1)
 refine ⟨(h.sty.set (by simp) _ _).set (by simp) _ _, ⟨p, n, c, hcb _ _ h0, ho2⟩, hcb _ _ h.c1, hcb _ _ h.c2, hcb _ _ h.c3, hcb _ _ h.c4, fun b hb o => by rw [World.frozen?_setCell, World.frozen?_setCell]; exact h.fz b hb o,
  fun u hu => ?_, by simpa using h.ln, fun u x hx => ?_, h.lt, by simpa using h.zl⟩
 ·by_cases e : u = v
  ·subst e
   refine ⟨cell_other ?_ (fun e => n3 e.1), ?_⟩
   ·rw [World.cell?_setCell_same' _ _ _ (by rw [(h.rg u hu).1]; rfl)]
    simp [regM, getD_setO, hvl]
   ·rw [World.cell?_setCell_same' _ _ _ (by rw [cell_other (h.rg u hu).2 (fun e => n3 e.1.symm)]; rfl)]
    simp [getD_setO, hvl]
  ·have er : ({ s with reg := s.reg.set v (some r) } : KS).reg.getD u none = s.reg.getD u none := by show (s.reg.set v (some r)).getD u none = _; rw [getD_setO, if_neg (fun q => e q.1)]
   refine ⟨cell_other (cell_other (by rw [(h.rg u hu).1]; congr 2; unfold regM; rw [er]) (fun q => e q.2)) (fun e => n3 e.1), ?_⟩; rw [er]; exact cell_other (cell_other (h.rg u hu).2 (fun e => n3 e.1.symm)) (fun q => e q.2)
 ·simp only [getD_setO] at hx
  split at hx
  ·cases hx; exact hlo
  ·exact h.lo u x hx
end
section
variable {Z : List Nat} {w1 : World} {cb gb eb : Nat} {pc : Option Addr} {cc : Nat} {C : List Int} {s : KS} {w : World}
theorem below_drewK {B : Nat} {w w1 : World} (h : Below B w w1) : Below B w w1.drew := ⟨h.os, h.tape, h.output, h.size, h.block⟩
theorem new_lowK (w : World) (o : Obj) : Below w.heap.size w (w.alloc o) := (Below.refl _ _).alloc (Nat.le_refl _) _
def KUnit (Z : List Nat) (w1 : World) (cb gb eb : Nat) (pc : Option Addr) (cc : Nat) (C : List Int) (w : World) (s : KS) (e : Ending) (w' : World) : Prop := e = .returned (.tuple #[]) ∧ MK Z w1 cb gb eb pc cc C s w' ∧ FrX [cb, gb, eb] w w'
set_option maxHeartbeats 1000000 in
theorem l9take_any (E : CEnv w1 cb gb eb pc cc C) (h : MK Z w1 cb gb eb pc cc C s w) (hn : s.nx ≤ 1000000000) :
  Calls Tryz.prog 122 #[ptrK cb] w fun e w' => e = .returned (.int .i64 s.nx) ∧ MK Z w1 cb gb eb pc cc C s.take w' ∧ FrX [cb, gb, eb] w w' := by
 have HF : Hid (MK Z w1 cb gb eb pc cc C s.take (w.setCell ⟨cb, 4, none⟩ (.int .i64 ((s.nx : Int) + 1))) ∧ FrX [cb, gb, eb] w (w.setCell ⟨cb, 4, none⟩ (.int .i64 ((s.nx : Int) + 1)))) := ⟨h.next E, (FrX.refl _ w).set (by simp) _ _⟩
 have c4 := h.c4; have hf : w.frozen? ⟨cb, 4, none⟩ = false := h.fz cb (by simp) 4; have hlt : cb < w.heap.size := Nat.lt_of_lt_of_le E.lt.1 h.sty.size; have c4' : (w.setCell ⟨cb, 4, none⟩ (.int .i64 ((s.nx : Int) + 1))).cell? ⟨cb, 4, none⟩ = some (.int .i64 ((s.nx : Int) + 1)) := World.cell?_setCell_same' _ _ _ (by rw [c4]; rfl)
 have h0 : (0 : Int) ≤ s.nx := by omega
 have h1 : (s.nx : Int) ≤ 1000000000 := by omega
 obtain ⟨x, ex⟩ : ∃ x : Int, x = s.nx := ⟨_, rfl⟩
 rw [← ex] at HF c4 c4' h0 h1 ⊢
 have e0 : x + 1 - 1 = x := by omega
 clear h E ex hn
 go_enter Tryz.func122, Tryz.ntmps122
 go_wp2_with fail; go_ret; exact ⟨rfl, HF.out⟩
theorem l9emit_any (E : CEnv w1 cb gb eb pc cc C) (h : MK Z w1 cb gb eb pc cc C s w) (op r a : Int) (hn : s.out.length ≤ 900000000) :
  Calls Tryz.prog 18 #[ptrK cb, .int .i64 op, .int .i64 r, .int .i64 a] w (KUnit Z w1 cb gb eb pc cc C w (s.put (insN op r a))) := by
 obtain ⟨p, n, c, h0, ho⟩ := h.c0; have hnl : n = s.out.length := ho.1
 obtain ⟨W, eW⟩ : ∃ W, W = w.alloc (.cells #[.int .i64 op, .int .i64 r, .int .i64 a, .int .i64 0, .int .i64 0, .slice none 0 0, .slice none 0 0, .slice none 0 0] 72) := ⟨_, rfl⟩
 have hW : Below w.heap.size w W := by rw [eW]; exact new_lowK w _
 have hlt : cb < w.heap.size := Nat.lt_of_lt_of_le E.lt.1 h.sty.size
 have HFIN : Hid (∀ g n' cap w', OwnIv Z w' w1.heap.size (some ⟨g, 0, none⟩) n' cap (s.out ++ [insN op r a]) → W.grownBy w' (Value.ownBlock (.slice p n c)) → (w'.cell? ⟨cb, 0, none⟩ = some (.slice p n c) ∧ w'.frozen? ⟨cb, 0, none⟩ = false ∧ cb < w'.heap.size) ∧
   MK Z w1 cb gb eb pc cc C (s.put (insN op r a)) (w'.setCell ⟨cb, 0, none⟩ (.slice (some ⟨g, 0, none⟩) n' cap)) ∧ FrX [cb, gb, eb] w (w'.setCell ⟨cb, 0, none⟩ (.slice (some ⟨g, 0, none⟩) n' cap))) := fun g n' cap w' ho' hg => by
  obtain ⟨a1, a2, a3⟩ := (h.below hW).put E ((hW.cell (p := ⟨cb, 0, none⟩) hlt).trans h0) (ho.below hW) hg ho'; exact ⟨a1, a2, (FrX.of _ hW).trans a3⟩
 have HO : Hid (OwnIv Z w w1.heap.size p n c s.out ∧ w1.heap.size ≤ w.heap.size ∧ ∀ z ∈ Z, z < w.heap.size) := ⟨ho, h.sty.size, h.zl⟩
 have HW : Hid (W = w.alloc (.cells #[.int .i64 op, .int .i64 r, .int .i64 a, .int .i64 0, .int .i64 0, .slice none 0 0, .slice none 0 0, .slice none 0 0] 72) ∧ Below w.heap.size w W) := ⟨eW, hW⟩
 have hn' : n ≤ 900000000 := by omega
 clear ho h E hn hnl eW hW
 go_enter Tryz.func18, Tryz.ntmps18
 go_wp2_with (at_builtin; refine app_ins w _ rfl _ _ rfl w1.heap.size p n c s.out rfl HO.out.1 HO.out.2.2 (new_lowK w _) HO.out.2.1 _ _ rfl (insN op r a) none 0 0 ⟨rfl, rfl⟩ ⟨rfl, fun h => by omega⟩ (World.news_of_block (heap_alloc_new w _)) (by omega) ?_; intro g n' cap w' ho' hb hg hn2; rw [← HW.out.1] at hg; obtain ⟨⟨k1, k2, k3⟩, k4, k5⟩ := HFIN.out g n' cap w' ho' hg; have K4 : Hid _ := k4; have K5 : Hid _ := k5; clear k4 k5 ho' hg hb)
 go_end0
 exact ⟨rfl, K4.out, K5.out⟩
end
end
end Go.Proofs.YtickbkcpcgmlmaaGreatDoor
