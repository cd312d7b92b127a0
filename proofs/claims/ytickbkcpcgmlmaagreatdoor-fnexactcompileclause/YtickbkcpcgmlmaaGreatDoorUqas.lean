/- Texts of ClF, ClK, ClH. Own work of the verifier. -/
import Derived.Test.YtickbkcpcgmlmaaGreatDoorUqal
import Derived.Test.YtickbkcpcgmlmaaGreatDoorUqan
namespace Go.Proofs.YtickbkcpcgmlmaaGreatDoor
set_option maxRecDepth 100000
open Go Go.RowKit
set_option linter.unusedVariables false
theorem infoGoal : (Tryz.prog.info? 118).map (fun i => (i.zero, i.size, i.bytes)) = some (some (.agg #[.nilIface, .int .i64 0]), 2, 24) := by kernel_rfl
theorem eqC_atom (w : World) (a b : ByteArray) : (binOp .eql 56 (.iface 143 (.string a)) (.iface 143 (.string b))).run Tryz.prog w = .ok (.bool (a == b)) w := by kernel_rfl
theorem eqC_var (w : World) (x : Value) (b : ByteArray) : (binOp .eql 56 (.iface 94 x) (.iface 143 (.string b))).run Tryz.prog w = .ok (.bool false) w := by kernel_rfl
theorem eqC_num (w : World) (x : Value) (b : ByteArray) : (binOp .eql 56 (.iface 149 x) (.iface 143 (.string b))).run Tryz.prog w = .ok (.bool false) w := by kernel_rfl
theorem eqC_comp (w : World) (x : Value) (b : ByteArray) : (binOp .eql 56 (.iface 156 x) (.iface 143 (.string b))).run Tryz.prog w = .ok (.bool false) w := by kernel_rfl
theorem eq_truth {w : World} {Bt : Nat} {c : Cel} {k : Fo} {t : TypeId} {x : Value} (hok : (Fo.node c k .nil).ok) (h : FoIn w Bt (.node c k .nil) [.iface t x]) (W : World) :
  (binOp .eql 56 (.iface t x) (.iface 143 (.string ⟨#[116, 114, 117, 101]⟩))).run Tryz.prog W = .ok (.bool (decide (c = trueC))) W := by
 obtain ⟨v', vr, e, hnode, _⟩ := h; obtain ⟨rfl, rfl⟩ := List.cons.inj e
 have oth : c.1 ≠ 2 → decide (c = trueC) = false := fun h0 => decide_eq_false (fun e => h0 (by rw [e]; rfl))
 rcases hnode with ⟨h0, hv⟩ | ⟨h0, hv⟩ | ⟨h0, hv⟩ | ⟨h0, b, g, kv, hv, _⟩
 ·rw [hv, eqC_var, oth (by rw [h0]; decide)]
 ·rw [hv, eqC_num, oth (by rw [h0]; decide)]
 ·have hc1 : c.2.1 = 0 := by have := hok.1; rw [h0] at this; simp [cellB] at this; exact this.2
  have e1 := str_beq hok.2.1 [116, 114, 117, 101]; rw [hv, eqC_atom]
  have e2 : (strOfNums c.2.2 == (⟨#[116, 114, 117, 101]⟩ : ByteArray)) = decide (c = trueC) := by
   rw [e1]
   congr 1
   rw [eq_iff_iff]
   constructor
   ·intro h
    obtain ⟨a, b, d⟩ := c; simp only at h0 hc1 h; rw [h0, hc1, h]; rfl
   ·intro h; rw [h]; rfl
  rw [e2]
 ·rw [hv, eqC_comp, oth (by rw [h0]; decide)]
def gRow : List Tr → List Value → List Value
 | g :: r, v :: q => v :: .int .i64 (giO g.1) :: gRow r q
 | _, _ => []
theorem gRow_snoc : ∀ (a : List Tr) (u : List Value) (g : Tr) (v : Value), a.length = u.length → gRow (a ++ [g]) (u ++ [v]) = gRow a u ++ [v, .int .i64 (giO g.1)]
 | [], [], g, v, _ => rfl
 | [], y :: q, g, v, h => by simp at h
 | x :: r, [], g, v, h => by simp at h
 | x :: r, y :: q, g, v, h => by
   show y :: _ :: gRow (r ++ [g]) (q ++ [v]) = y :: _ :: (gRow r q ++ _)
   rw [gRow_snoc r q g v (by simpa using h)]
theorem FoIn.atC {w : World} {B : Nat} : ∀ (its : List (Cel × Fo)) (vs : List Value), FoIn w B (itsF its) vs → ∀ i (h : i < its.length), ∃ t x, vs[i]? = some (.iface t x) ∧ FoIn w B (.node its[i].1 its[i].2 .nil) [.iface t x]
 | [], vs, _, i, h => by simp at h
 | a :: r, vs, ⟨v, vr, e, hn, hr⟩, 0, _ => by
   obtain ⟨t, x, rfl⟩ := hn.iface; exact ⟨t, x, by rw [e]; rfl, _, [], rfl, hn, rfl⟩
 | a :: r, vs, ⟨v, vr, e, hn, hr⟩, i + 1, h => by
   obtain ⟨t, x, h1, h2⟩ := FoIn.atC r vr hr i (by simpa using h); exact ⟨t, x, by rw [e]; simpa using h1, by simpa using h2⟩
theorem FoIn.lenC {w : World} {B : Nat} {its : List (Cel × Fo)} {vs : List Value} (h : FoIn w B (itsF its) vs) : vs.length = its.length := by
 rw [FoIn.count _ _ h, itsF_count]
theorem cell_two_new (w : World) (x y : Value) (t : TypeId) : ∀ j u, [x, y][j]? = some u → (w.alloc (.cells #[x, y] t)).cell? ((⟨w.heap.size, 0, none⟩ : Addr).add j) = some u := fun j u hu => by
 have hb : (w.alloc (.cells #[x, y] t)).heap[w.heap.size]? = some (.cells #[x, y] t) := by show (w.heap.push _)[w.heap.size]? = _; exact Array.getElem?_push_size
 match j, hu with
 | 0, hu => simp at hu; subst hu; simp [Addr.add]
 | 1, hu => simp at hu; subst hu; simp [Addr.add]
 | j + 2, hu => simp at hu
def FgOut (w0 : World) (Bt : Nat) (w : World) (t : Tr) (e : Ending) (w' : World) : Prop :=
 ∃ p n cp vs, e = .returned (.tuple #[.slice p n cp, .bool ((goalsT t).all goodG)]) ∧ ((goalsT t).all goodG = true → n = (goalsT t).length ∧ w'.ownsRow w.heap.size 118 2 (.slice p n cp) n (gRow (goalsT t) vs) ∧ FoIn w0 Bt (itsF (goalsT t)) vs ∧ (itsF (goalsT t)).ok) ∧ Below w.heap.size w w'
theorem conj_len : ∀ (N : Nat) (c : Cel) (k : Fo), k.cells.length ≤ N → (conjL c k).length ≤ k.cells.length + 1
 | N, c, k, hN => by
   by_cases hc : c = comma
   ·match k with
    | .node c1 k1 (.node c2 k2 .nil) =>
      subst hc
      cases N with
      | zero => simp [Fo.cells] at hN
      | succ N =>
        have ih := conj_len N c2 k2 (by simp [Fo.cells] at hN; omega); rw [conjL_comma]
        simp [Fo.cells]
        omega
    | .nil => unfold conjL; unfold splitC; simp
    | .node c1 k1 .nil => unfold conjL; unfold splitC; simp
    | .node c1 k1 (.node c2 k2 (.node c3 k3 r)) => unfold conjL; unfold splitC; simp
   ·rw [conjL_other c k hc]; simp
set_option maxHeartbeats 2000000 in
theorem fg_any (c : Cel) (k : Fo) (v : Value) (Bt mb : Nat) (w0 w : World) (hok : (Fo.node c k .nil).ok) (hfo : FoIn w0 Bt (.node c k .nil) [v]) (hw : Below w0.heap.size w0 w) (hl : k.cells.length ≤ 2000) (hM : BuIn w mb 92 buTab) :
  Calls Tryz.prog 102 #[.map (some mb), v] w (FgOut w0 Bt w (c, k)) := by
 obtain ⟨vt, vx, rfl⟩ := hfo.iface; have heq := eq_truth hok hfo
 by_cases ht : c = trueC
 ·rw [decide_eq_true ht] at heq
  have eg : goalsT (c, k) = [] := by unfold goalsT; rw [if_pos ht]
  have HO : Hid (FgOut w0 Bt w (c, k) (.returned (.tuple #[.slice none 0 0, .bool true])) w) := ⟨none, 0, 0, [], by rw [eg]; rfl, fun _ => ⟨by rw [eg]; rfl, by rw [eg]; exact World.ownsRow_nil _ _ _ _, by rw [eg]; rfl, by rw [eg]; trivial⟩, Below.refl _ _⟩
  clear hok hfo hw hM ht eg
  go_enter Tryz.func102, Tryz.ntmps102
  go_wp2_with fail
  go_ret2
  exact HO.out
 ·rw [decide_eq_false ht] at heq
  have eg : goalsT (c, k) = conjL c k := by unfold goalsT; rw [if_neg ht]
  have HCJ := conj_any c k (.iface vt vx) Bt w0 w hok hfo hw (by omega); have hcl := conj_len _ c k (Nat.le_refl _); have HW : Hid (Below w0.heap.size w0 w) := hw; have HM : Hid (BuIn w mb 92 buTab) := hM; have hws := hw.size
  obtain ⟨gs, egs⟩ : ∃ gs, gs = conjL c k := ⟨_, rfl⟩
  have HGS : Hid (goalsT (c, k) = gs) := by show _ = _; rw [eg, egs]
  have hgl : gs.length ≤ 2001 := by rw [egs]; omega
  unfold CjOut at HCJ
  rw [← egs] at HCJ; clear hok hfo hw hM ht eg hcl egs hl; obtain ⟨i0, hi, hz0, hz1, hz2⟩ := info_parts infoGoal
  go_enter Tryz.func102, Tryz.ntmps102
  go_wp2_with fail; refine HCJ.mono ?_; rintro e w1 ⟨p1, n1, cp1, vs, rfl, hn1, hrow1, hits1, hok1, hb1⟩
  have hn1b : n1 ≤ 2001 := by omega
  have HN1 : Hid (n1 = gs.length) := hn1; have HR1 : Hid (w1.ownsRow w.heap.size 56 1 (.slice p1 n1 cp1) n1 vs) := hrow1
  have HI1 : Hid (FoIn w0 Bt (itsF gs) vs ∧ (itsF gs).ok) := ⟨hits1, hok1⟩
  have HB1 : Hid (Below w.heap.size w w1) := hb1; have HVL : Hid (vs.length = gs.length) := FoIn.lenC hits1; clear HCJ hn1 hrow1 hits1 hok1 hb1; go_wp2_with fail
  go_loopw [6, 17] (fun s i wr => ∃ (j : Nat) (p6 : Option Addr) (c6 : Nat), j ≤ n1 ∧ i = .int .i64 j ∧ s = .slice p6 j c6 ∧ Hid (wr.ownsRow w.heap.size 118 2 (.slice p6 j c6) j (gRow (gs.take j) (vs.take j))) ∧ Hid (wr.ownsRow w.heap.size 56 1 (.slice p1 n1 cp1) n1 vs) ∧ Hid ((gs.take j).all goodG = true) ∧ Hid (Below w.heap.size w wr)) (fun _ i _ => n1 - (intOf i).toNat)
  case atStart => exact ⟨0, none, 0, Nat.zero_le _, rfl, rfl, World.ownsRow_nil _ _ _ _, HR1, rfl, HB1⟩
  case round =>
   obtain ⟨j, p6, c6, hj, rfl, rfl, HG, HR, HA, HB⟩ := hrel
   by_cases hlt : j < n1
   ·obtain ⟨g1, cap1, hv1, hbg1, hgl1⟩ := World.ownsRow.form HR.out (by omega)
    obtain ⟨rfl, rfl⟩ : p1 = some ⟨g1, 0, none⟩ ∧ cp1 = cap1 := by injection hv1 with h1 _ h2; exact ⟨h1, h2⟩
    have hjg : j < gs.length := by rw [← HN1.out]; exact hlt
    obtain ⟨t1, x1, hat, hnode⟩ := FoIn.atC gs vs HI1.out.1 j hjg; have hokj := itsF_ok_at gs HI1.out.2 j hjg; have d0 := (HR.out.cellAt j (by omega)).trans hat; have hwr : Below w0.heap.size w0 wr := HW.out.trans (HB.out.mono hws); have HGI := gi_any gs[j].1 gs[j].2 (.iface t1 x1) mb wr hokj hnode hwr (HM.out.below HB.out)
    have HTK : Hid (gs.take (j + 1) = gs.take j ++ [gs[j]] ∧ vs.take (j + 1) = vs.take j ++ [.iface t1 x1]) := by
     refine ⟨by rw [List.take_succ_eq_append_getElem hjg], ?_⟩
     have hjv : j < vs.length := by rw [HVL.out]; exact hjg
     rw [List.take_succ_eq_append_getElem hjv]; rw [List.getElem?_eq_getElem hjv] at hat; rw [Option.some.inj hat]
    have hBs : w.heap.size ≤ wr.heap.size := HB.out.size; have eGG : (goodG (gs[j].1, gs[j].2)) = goodG gs[j] := rfl; rw [eGG] at HGI
    obtain ⟨op, eop⟩ : ∃ x, x = giO gs[j].1 := ⟨_, rfl⟩
    obtain ⟨gd, egd⟩ : ∃ x, x = goodG gs[j] := ⟨_, rfl⟩
    have HOP : Hid (op = giO gs[j].1) := eop; have HGD : Hid (gd = goodG gs[j]) := egd; rw [← eop, ← egd] at HGI
    have hopb : 0 ≤ op ∧ op ≤ 100 := by rw [eop]; unfold giO; repeat' split <;> omega
    clear hv1 hbg1 hgl1 hat hnode hokj hwr eGG eop egd
    cases gd with
    | false =>
      have HO : Hid (∀ W, Below wr.heap.size wr W → FgOut w0 Bt w (c, k) (.returned (.tuple #[.slice none 0 0, .bool false])) W) := fun W hW => by
       have hf : gs.all goodG = false := by
        cases hh : gs.all goodG with
        | false => rfl
        | true =>
          have := List.all_eq_true.1 hh gs[j] (List.getElem_mem hjg); rw [← HGD.out] at this; exact absurd this (by decide)
       refine ⟨none, 0, 0, [], by rw [HGS.out, hf], fun h => ?_, Below.on HB.out hW⟩; rw [HGS.out, hf] at h; exact absurd h (by decide)
      clear HG HR HA hopb; go_wp2_with fail; refine HGI.mono ?_; rintro e w2 ⟨rfl, hb2⟩; have HO2 : Hid _ := HO.out w2 hb2; clear HGI hb2; go_wp2_with fail
      go_ret2
      exact HO2.out
    | true =>
      go_wp2_with fail; refine HGI.mono ?_; rintro e w2 ⟨rfl, hb2⟩; have HG2 : Hid (w2.ownsRow w.heap.size 118 2 (.slice p6 j c6) j (gRow (gs.take j) (vs.take j))) := row_below HG.out hb2; have HR2 : Hid (w2.ownsRow w.heap.size 56 1 (.slice (some ⟨g1, 0, none⟩) n1 cp1) n1 vs) := row_below HR.out hb2; have HB2 : Hid (Below w.heap.size w w2) := Below.on HB.out hb2; have hBs2 : w.heap.size ≤ w2.heap.size := HB2.out.size; clear hb2 HGI HG HR d0; go_wp2_with (at_builtin; refine wpList_append_lies _ rfl _ _ 57 rfl w.heap.size 118 i0 (.agg #[.nilIface, .int .i64 0]) 2 24 Tryz.underlying57 hi hz0 hz1 hz2 rfl (by decide) (.slice p6 j c6) j (gRow (gs.take j) (vs.take j)) rfl (HG2.out.alloc _) ⟨w2.heap.size, 0, none⟩ 1 1 [.iface t1 x1, .int .i64 op] rfl rfl (cell_two_new _ _ _ _) (fun u hu => by simp at hu; rcases hu with rfl | rfl <;> rfl) (by decide) (by unfold maxLen; omega) (by omega) (by simp; omega) _ rfl ?_; intro g5 cap5 w5 hown5 hgrow5 hat5 hlt5)
      have HO5 : Hid (w5.ownsRow w.heap.size 118 2 (.slice (some ⟨g5, 0, none⟩) (j + 1) cap5) (j + 1) (gRow (gs.take (j + 1)) (vs.take (j + 1)))) := by
       show World.ownsRow _ _ _ _ _ _ _
       rw [HTK.out.1, HTK.out.2, gRow_snoc _ _ _ _ (by rw [List.length_take, List.length_take, HVL.out]), ← HOP.out]; exact hown5
      have HR5 : Hid (w5.ownsRow w.heap.size 56 1 (.slice (some ⟨g1, 0, none⟩) n1 cp1) n1 vs) := (HR2.out.alloc _).kept hgrow5 (rowsN HR2.out HG2.out (by decide)); have HB5 : Hid (Below w.heap.size w w5) := (HB2.out.alloc hBs2 _).trans ((Below.refl _ _).grown hgrow5 (by simp; omega) (fun k hk => (HG2.out.lt k hk).1))
      have HA5 : Hid ((gs.take (j + 1)).all goodG = true) := by
       show _ = _
       rw [HTK.out.1, List.all_append, HA.out]
       simp [← HGD.out]
      clear hown5 hgrow5 hat5; go_wp2_with fail; go_roundw
      case rel => exact ⟨j + 1, _, cap5, by omega, by go_num, rfl, HO5, HR5, HA5, HB5⟩
      case measure => simp [intOf]; omega
   ·obtain rfl : j = n1 := by omega
    have HO : Hid (FgOut w0 Bt w (c, k) (.returned (.tuple #[.slice p6 j c6, .bool true])) wr) := by
     have e1 : gs.take j = gs := by rw [HN1.out]; exact List.take_length
     have e2 : vs.take j = vs := by rw [HN1.out, ← HVL.out]; exact List.take_length
     have h1 := HA.out; have h2 := HG.out; rw [e1] at h1 h2; rw [e2] at h2; exact ⟨p6, j, c6, vs, by rw [HGS.out, h1], fun _ => ⟨by rw [HGS.out]; exact HN1.out, by rw [HGS.out]; exact h2, by rw [HGS.out]; exact HI1.out.1, by rw [HGS.out]; exact HI1.out.2⟩, HB.out⟩
    clear HG HR HA; go_wp2_with fail
    go_ret2
    exact HO.out
theorem tree_one {c c' : Cel} {k k' : Fo} (h : c :: k.cells = c' :: k'.cells) (h1 : (Fo.node c k .nil).ok) (h2 : (Fo.node c' k' .nil).ok) : c = c' ∧ k = k' := by
 have hh := Fo.cells_inj (.node c k .nil) (.node c' k' .nil) [] [] h1 h2 rfl (by simp only [Fo.cells, List.append_nil]; exact h); have h5 := hh.1
 injection h5 with h6 h7
 exact ⟨h6, h7⟩
theorem sides_of {w0 : World} {Bt : Nat} {c : Cel} {k : Fo} {v : Value} (hok : (Fo.node c k .nil).ok) (hfo : FoIn w0 Bt (.node c k .nil) [v]) (hr : c = ruleC) :
  ∃ b g t1 x1 t2 x2, v = .iface 156 (.pointer (some ⟨b, 0, none⟩)) ∧ w0.cell? ⟨b, 1, none⟩ = some (.slice (some ⟨g, 0, none⟩) 2 2) ∧ w0.cell? ⟨g, 0, none⟩ = some (.iface t1 x1) ∧ w0.cell? ⟨g, 1, none⟩ = some (.iface t2 x2) ∧
    FoIn w0 Bt (.node (kid0 (c, k)).1 (kid0 (c, k)).2 .nil) [.iface t1 x1] ∧ FoIn w0 Bt (.node (kid1 (c, k)).1 (kid1 (c, k)).2 .nil) [.iface t2 x2] ∧ (Fo.node (kid0 (c, k)).1 (kid0 (c, k)).2 .nil).ok ∧ (Fo.node (kid1 (c, k)).1 (kid1 (c, k)).2 .nil).ok ∧ (kid0 (c, k)).2.cells.length + (kid1 (c, k)).2.cells.length + 2 = k.cells.length := by
 have h3 : c.1 = 3 := by rw [hr]; rfl
 have hcnt : k.count = 2 := by
  have h9 := hok.2.2.1 h3; rw [hr] at h9; have e2 : (ruleC.2.1 : Int) = 2 := rfl
  omega
 obtain ⟨c1, k1, c2, k2, rfl⟩ := two_of hcnt; obtain ⟨v', vr, e, hn, _⟩ := hfo; obtain ⟨rfl, rfl⟩ := List.cons.inj e
 rcases hn with ⟨h, rfl⟩ | ⟨h, rfl⟩ | ⟨h, rfl⟩ | ⟨h, b, g, vs, rfl, hcomp⟩
 ·omega
 ·omega
 ·omega
 ·obtain ⟨v1, vr1, e1, hn1, v2, vr2, e2, hn2, e3⟩ := hcomp.2.2.2.2.2.2
  have e3' : vr2 = [] := e3; subst e3' e2; subst e1; obtain ⟨t1, x1, rfl⟩ := hn1.iface; obtain ⟨t2, x2, rfl⟩ := hn2.iface; have hk := hok.2.2.2.2.1; have g0 := hcomp.2.2.2.2.2.1 0 (by simp); have g1 := hcomp.2.2.2.2.2.1 1 (by simp); simp only [List.getD_cons_zero, List.getD_cons_succ] at g0 g1; exact ⟨b, g, t1, x1, t2, x2, rfl, hcomp.2.2.2.1, g0, g1, ⟨_, [], rfl, hn1, rfl⟩, ⟨_, [], rfl, hn2, rfl⟩, ⟨hk.1, hk.2.1, hk.2.2.1, hk.2.2.2.1, hk.2.2.2.2.1, trivial⟩, hk.2.2.2.2.2, by simp [kid0, kid1, trs, Fo.cells]; omega⟩
theorem box_set2 {w : World} {b : Nat} {x y a d : Value} {t : TypeId} (h : w.heap[b]? = some (.cells #[x, y] t (0, 0))) : (w.setCell ⟨b, 0, none⟩ a).heap[b]? = some (.cells #[a, y] t (0, 0)) ∧ ((w.setCell ⟨b, 0, none⟩ a).setCell ⟨b, 1, none⟩ d).heap[b]? = some (.cells #[a, d] t (0, 0)) := by
 have h1 : (w.setCell ⟨b, 0, none⟩ a).heap[b]? = some (.cells #[a, y] t (0, 0)) := by
  unfold World.setCell
  rw [Array.getElem?_modify, if_pos rfl, h]; rfl
 refine ⟨h1, ?_⟩
 generalize w.setCell ⟨b, 0, none⟩ a = w1 at h1
 unfold World.setCell
 rw [Array.getElem?_modify, if_pos rfl, h1]; rfl
def FcOut (w : World) (cs : List Cel) (e : Ending) (w' : World) : Prop :=
 ∃ ha p n cp, (ha = .nilIface ∨ ∃ t x, ha = .iface t x) ∧ Below w.heap.size w w' ∧
   ((e = .returned (.tuple #[.agg #[ha, .slice p n cp], .bool false]) ∧ ¬ (validB cs = true ∧ ∀ c k, cs = c :: k.cells → (Fo.node c k .nil).ok → flatB (c, k) = true)) ∨
    (e = .returned (.tuple #[.agg #[ha, .slice p n cp], .bool true]) ∧ validB cs = true ∧ ∃ c k vs, cs = c :: k.cells ∧ (Fo.node c k .nil).ok ∧ flatB (c, k) = true ∧ cs.length ≤ 2000 ∧ FoIn w' 0 (.node (kid0 (c, k)).1 (kid0 (c, k)).2 .nil) [ha] ∧ (Fo.node (kid0 (c, k)).1 (kid0 (c, k)).2 .nil).ok ∧
     n = (goalsT (kid1 (c, k))).length ∧ w'.ownsRow w.heap.size 118 2 (.slice p n cp) n (gRow (goalsT (kid1 (c, k))) vs) ∧ FoIn w' 0 (itsF (goalsT (kid1 (c, k)))) vs ∧ (itsF (goalsT (kid1 (c, k)))).ok))
theorem row_set {w : World} {B s n b o : Nat} {e t : TypeId} {v x : Value} {xs : List Value} {cur : Array Value} {fr : Nat × Nat} (h : w.ownsRow B e s v n xs) (hb : w.heap[b]? = some (.cells cur t fr)) (hne : e ≠ t) : (w.setCell ⟨b, o, none⟩ x).ownsRow B e s v n xs := by
 refine ⟨h.1, ?_⟩
 rcases h.2 with h0 | ⟨g, cap, cur', hv, hg, hh, r⟩
 ·exact .inl h0
 ·have hgb : g ≠ b := fun e9 => by
   rw [e9, hb] at hh
   injection hh with h9
   injection h9 with _ h8
   exact hne h8.symm
  exact .inr ⟨g, cap, cur', hv, hg, by rw [Below.heap_setCell _ _ _ _ hgb]; exact hh, r⟩
theorem FoIn.setB {w : World} {B b o : Nat} {x : Value} {F : Fo} {vs : List Value} (h : FoIn w B F vs) (hb : b < B) : FoIn (w.setCell ⟨b, o, none⟩ x) B F vs :=
 FoIn.imp (Nat.le_refl _) (fun b' o' h1 h2 => by
  unfold World.cell?
  rw [Below.heap_setCell _ _ _ _ (show b' ≠ b by omega)]) (by simp) F vs h
structure BoxC (w : World) (b : Nat) : Prop where
 blk : w.heap[b]? = some (.cells #[.nilIface, .slice none 0 0] 59 (0, 0))
 k0 : w.cell? ⟨b, 0, none⟩ = some .nilIface
 k1 : w.cell? ⟨b, 1, none⟩ = some (.slice none 0 0)
 f0 : w.frozen? ⟨b, 0, none⟩ = false
 s1 : ∀ a, (w.setCell ⟨b, 0, none⟩ a).cell? ⟨b, 1, none⟩ = some (.slice none 0 0)
 sf : ∀ a, (w.setCell ⟨b, 0, none⟩ a).frozen? ⟨b, 1, none⟩ = false
 m0 : ∀ a d, ((w.setCell ⟨b, 0, none⟩ a).setCell ⟨b, 1, none⟩ d).cell? ⟨b, 0, none⟩ = some a
 m1 : ∀ a d, ((w.setCell ⟨b, 0, none⟩ a).setCell ⟨b, 1, none⟩ d).cell? ⟨b, 1, none⟩ = some d
theorem boxC {w : World} {b : Nat} (h : w.heap[b]? = some (.cells #[.nilIface, .slice none 0 0] 59 (0, 0))) : BoxC w b :=
 ⟨h, (two_cells h).1, (two_cells h).2.1, (two_cells h).2.2.1, fun a => (two_cells (box_set2 (a := a) (d := .nilIface) h).1).2.1, fun a => (two_cells (box_set2 (a := a) (d := .nilIface) h).1).2.2.2, fun a d => (two_cells (box_set2 (a := a) (d := d) h).2).1, fun a d => (two_cells (box_set2 (a := a) (d := d) h).2).2.1⟩
theorem boxC_kept {w W : World} (h : Below (w.alloc (.cells #[.nilIface, .slice none 0 0] 59)).heap.size (w.alloc (.cells #[.nilIface, .slice none 0 0] 59)) W) : BoxC W w.heap.size := boxC (by
 rw [h.block w.heap.size (by simp)]
 show (w.heap.push _)[w.heap.size]? = _
 exact Array.getElem?_push_size)
theorem row_mono {w : World} {B B' s n : Nat} {e : TypeId} {v : Value} {xs : List Value} (h : w.ownsRow B e s v n xs) (hB : B' ≤ B) : w.ownsRow B' e s v n xs := by
 refine ⟨h.1, ?_⟩
 rcases h.2 with h0 | ⟨g, cap, cur', hv, hg, r⟩
 ·exact .inl h0
 ·exact .inr ⟨g, cap, cur', hv, Nat.le_trans hB hg, r⟩
set_option maxHeartbeats 2000000 in
theorem fc_any (cs : List Cel) (p : Option Addr) (mb : Nat) (w : World) (hxb : ∀ i, i < cs.length → Byte (cs.getD i Cel.none).2.2) (hn : cs.length ≤ 1000000000) (hin : CIn w p cs) (hM : BuIn w mb 92 buTab) :
  Calls Tryz.prog 25 #[.map (some mb), .slice p cs.length cs.length] w (FcOut w cs) := by
 have hAL : Below w.heap.size w (w.alloc (.cells #[.nilIface, .slice none 0 0] 59)) := (Below.refl _ _).alloc (Nat.le_refl _) _; have HV := implValid_any p cs.length cs (w.alloc (.cells #[.nilIface, .slice none 0 0] 59)) hn (hin.below hAL); have HAL : Hid _ := hAL
 have HBX : Hid (∀ W, Below (w.alloc (.cells #[.nilIface, .slice none 0 0] 59)).heap.size (w.alloc (.cells #[.nilIface, .slice none 0 0] 59)) W → BoxC W w.heap.size) := fun W hW => boxC_kept hW
 have HNO : Hid (¬ (validB cs = true ∧ ∀ c k, cs = c :: k.cells → (Fo.node c k .nil).ok → flatB (c, k) = true) → ∀ W, Below w.heap.size w W → FcOut w cs (.returned (.tuple #[.agg #[.nilIface, .slice none 0 0], .bool false])) ((W.setCell ⟨w.heap.size, 0, none⟩ .nilIface).setCell ⟨w.heap.size, 1, none⟩ (.slice none 0 0))) := fun h W hW =>
  ⟨.nilIface, none, 0, 0, .inl rfl, (hW.setCell (p := ⟨w.heap.size, 0, none⟩) (Nat.le_refl _) _).setCell (p := ⟨w.heap.size, 1, none⟩) (Nat.le_refl _) _, .inl ⟨rfl, h⟩⟩
 by_cases hv : validB cs = true
 ·obtain ⟨c, k, ex, hok, hlx⟩ := tree_of hxb hv
  have hcl : k.cells.length + 1 = cs.length := by rw [ex]; simp
  rw [hv] at HV
  have HTE : Hid (∀ W, Below w.heap.size w W → Calls Tryz.prog 97 #[.slice p cs.length cs.length] W fun e w' => ∃ v, e = .returned v ∧ FoIn w' W.heap.size (.node c k .nil) [v] ∧ Below W.heap.size W w') := fun W hB => termOf_any c k p cs.length cs.length W hok (by omega) (Nat.le_refl _) (by omega) (by have := hin.below hB; rw [ex] at this; exact this)
  have HM : Hid (BuIn w mb 92 buTab) := hM
  have HX : Hid (cs = c :: k.cells ∧ (Fo.node c k .nil).ok ∧ validB cs = true ∧ cs.length ≤ 2000) := ⟨ex, hok, hv, hlx⟩
  have HFB : Hid (flatB (c, k) = false → ¬ (validB cs = true ∧ ∀ c k, cs = c :: k.cells → (Fo.node c k .nil).ok → flatB (c, k) = true)) := fun h h9 => by
   have := h9.2 c k HX.out.1 HX.out.2.1; rw [h] at this; exact absurd this (by decide)
  have hkl : k.cells.length ≤ 2000 := by omega
  obtain ⟨m, em⟩ : ∃ m, m = cs.length := ⟨_, rfl⟩
  rw [← em] at HV HTE ⊢; clear hxb hn hin hM hv ex hok hlx hAL em hcl
  go_enter Tryz.func25, Tryz.ntmps25
  go_wp2_with fail; refine HV.mono ?_; rintro e w1 ⟨rfl, hb1⟩; have HBA1 : Hid (Below (w.alloc (.cells #[.nilIface, .slice none 0 0] 59)).heap.size (w.alloc (.cells #[.nilIface, .slice none 0 0] 59)) w1) := hb1; have HB1 : Hid (Below w.heap.size w w1) := Below.on HAL.out hb1; have HTE1 := HTE.out w1 HB1.out; clear hb1; go_wp2_with fail; refine HTE1.mono ?_; rintro e w2 ⟨v2, rfl, hf2, hb2⟩; obtain ⟨vt, vx, rfl⟩ := hf2.iface; have HBA2 : Hid (Below (w.alloc (.cells #[.nilIface, .slice none 0 0] 59)).heap.size (w.alloc (.cells #[.nilIface, .slice none 0 0] 59)) w2) := Below.on HBA1.out hb2; have HB2 : Hid (Below w.heap.size w w2) := Below.on HB1.out hb2; have HF2 : Hid (FoIn w2 w1.heap.size (.node c k .nil) [.iface vt vx]) := hf2; have HFU := fo_any c k (.iface vt vx) w2 HX.out.2.1 hf2 (Below.refl _ _); have HIS := f_is HX.out.2.1.2.1 HX.out.2.1.1 [58, 45] 2 (by simp) (by decide)
  clear hf2 hb2 HTE1
  by_cases hr : c = ruleC
  ·obtain ⟨hs1, hs2⟩ := HIS.2 (by rw [hr]; rfl)
   rw [hs2] at HFU; obtain ⟨b, g, t1, x1, t2, x2, hv, d1, g0, g1, hk0, hk1, hok0, hok1, hkc⟩ := sides_of HX.out.2.1 HF2.out hr
   obtain ⟨rfl, rfl⟩ : vt = 156 ∧ vx = .pointer (some ⟨b, 0, none⟩) := by injection hv with h1 h2; exact ⟨h1, h2⟩
   have HSD : Hid (w2.cell? ⟨b, 1, none⟩ = some (.slice (some ⟨g, 0, none⟩) 2 2) ∧ w2.cell? ⟨g, 0, none⟩ = some (.iface t1 x1) ∧ w2.cell? ⟨g, 1, none⟩ = some (.iface t2 x2)) := ⟨d1, g0, g1⟩
   have HK : Hid (FoIn w2 w1.heap.size (.node (kid0 (c, k)).1 (kid0 (c, k)).2 .nil) [.iface t1 x1] ∧ FoIn w2 w1.heap.size (.node (kid1 (c, k)).1 (kid1 (c, k)).2 .nil) [.iface t2 x2] ∧ (Fo.node (kid0 (c, k)).1 (kid0 (c, k)).2 .nil).ok ∧ (Fo.node (kid1 (c, k)).1 (kid1 (c, k)).2 .nil).ok) := ⟨hk0, hk1, hok0, hok1⟩
   have hk1l : (kid1 (c, k)).2.cells.length ≤ 2000 := by omega
   have HR : Hid (c = ruleC) := hr
   generalize fS c = str at HFU hs1
   generalize calC c = cb at HFU
   clear hv d1 g0 g1 hk0 hk1 hok0 hok1 hkc HIS hs2 hr; go_wp2_with fail; refine HFU.mono ?_; rintro e w3 ⟨rfl, hb3⟩; have HAB : Hid (Below w2.heap.size w2 (w3.alloc (.cells #[.string str, .int .i64 2] 89))) := hb3.alloc hb3.size _; have HRN := renumber_any c k (.iface 156 (.pointer (some ⟨b, 0, none⟩))) w1.heap.size (w3.alloc (.cells #[.string str, .int .i64 2] 89)) HX.out.2.1 (HF2.out.below HAB.out) (by omega); clear hb3 HFU; go_wp2_with fail; refine HRN.mono ?_; rintro e w4 ⟨v4, rfl, hf4, hb4⟩; have HB24 : Hid (Below w2.heap.size w2 w4) := Below.on HAB.out hb4
   have hvl : (visits [] (c :: k.cells)).length ≤ 1000000 := by have := visits_len (c :: k.cells) []; simp at this; omega
   have ok2 : Tr.ok (renI (visits [] (c :: k.cells)) c, k.map (renI (visits [] (c :: k.cells)))) := Fo.ok_ren hvl (.node c k .nil) HX.out.2.1; have HSM := isSame_any w4 0 w4 ((c, k), (renI (visits [] (c :: k.cells)) c, k.map (renI (visits [] (c :: k.cells))))) (.iface 156 (.pointer (some ⟨b, 0, none⟩))) v4 (Below.refl _ _) (FoIn.mono (FoIn.below HF2.out HB24.out) (Nat.zero_le _)) (FoIn.mono hf4 (Nat.zero_le _)) HX.out.2.1 ok2 (by show k.cells.length ≤ 10000; omega)
   have he : eqT ((c, k), (renI (visits [] (c :: k.cells)) c, k.map (renI (visits [] (c :: k.cells))))) = decide (renCells (c :: k.cells) = c :: k.cells) := by
    rw [eqT_cells (x := ((c, k), (renI (visits [] (c :: k.cells)) c, k.map (renI (visits [] (c :: k.cells)))))) HX.out.2.1 ok2]; simp only [Fo.cells_map, renCells, List.map_cons]
    congr 1
    rw [eq_iff_iff]; exact eq_comm
   rw [he] at HSM; obtain ⟨t4, y4, rfl⟩ := hf4.iface
   obtain ⟨sm, esm⟩ : ∃ x, x = decide (renCells (c :: k.cells) = c :: k.cells) := ⟨_, rfl⟩
   rw [← esm] at HSM; have HSE : Hid (sm = decide (renCells (c :: k.cells) = c :: k.cells)) := esm; clear hf4 hb4 HRN he hvl ok2 esm; go_wp2_with fail; refine HSM.mono ?_; rintro e w5 ⟨rfl, hb5⟩; have HB25 : Hid (Below w2.heap.size w2 w5) := Below.on HB24.out hb5; have HBA5 : Hid (Below (w.alloc (.cells #[.nilIface, .slice none 0 0] 59)).heap.size (w.alloc (.cells #[.nilIface, .slice none 0 0] 59)) w5) := Below.on HBA2.out HB25.out; have HB5 : Hid (Below w.heap.size w w5) := Below.on HAL.out HBA5.out; clear hb5 HSM
   cases sm with
   | false =>
     have HO := HNO.out (HFB.out (by unfold flatB; rw [← HSE.out]; simp)) w5 HB5.out; obtain ⟨_, k0, k1, f0, s1, sf, m0, m1⟩ := HBX.out w5 HBA5.out; have HOH : Hid _ := HO; clear HO HNO HFB HK HSD HTE HV; go_wp2_with fail; exact bodyPost_ret (v := .tuple #[.agg #[.nilIface, .slice none 0 0], .bool false]) (by simp [results, Tryz.results25, go_sem, m0, m1]) rfl HOH.out
   | true =>
     obtain ⟨d1, g0, g1⟩ := HSD.out; have d1' := (HB25.out.cell (World.block_lt_of_cell? _ _ d1)).trans d1; have g0' := (HB25.out.cell (World.block_lt_of_cell? _ _ g0)).trans g0; have g1' := (HB25.out.cell (World.block_lt_of_cell? _ _ g1)).trans g1; have HAR := argsComp_any b g 2 w5 d1'; have HFH := fo_any (kid0 (c, k)).1 (kid0 (c, k)).2 (.iface t1 x1) w5 HK.out.2.2.1 HK.out.1 HB25.out
     have HG1 : Hid (w5.cell? ⟨g, 0, none⟩ = some (.iface t1 x1) ∧ w5.cell? ⟨g, 1, none⟩ = some (.iface t2 x2)) := ⟨g0', g1'⟩
     obtain ⟨s9, es9⟩ : ∃ x, x = fS (kid0 (c, k)).1 := ⟨_, rfl⟩
     obtain ⟨a9, ea9⟩ : ∃ x, x = fA (kid0 (c, k)).1 := ⟨_, rfl⟩
     obtain ⟨hc, ehc⟩ : ∃ x, x = calC (kid0 (c, k)).1 := ⟨_, rfl⟩
     rw [← es9, ← ea9, ← ehc] at HFH; have HHC : Hid (hc = calC (kid0 (c, k)).1) := ehc; clear d1 g0 g1 g1' d1' es9 ea9 ehc; go_wp2_with fail; refine HAR.mono ?_; rintro e w5' ⟨rfl, hw5⟩; subst hw5; go_wp2_with fail; refine HFH.mono ?_; rintro e w6 ⟨rfl, hb6⟩; have HAC : Hid (Below w5'.heap.size w5' (w6.alloc (.cells #[.string s9, .int .i64 a9] 89))) := hb6.alloc hb6.size _; have HB2C : Hid (Below w2.heap.size w2 (w6.alloc (.cells #[.string s9, .int .i64 a9] 89))) := Below.on HB25.out HAC.out; have HB0C : Hid (Below w.heap.size w (w6.alloc (.cells #[.string s9, .int .i64 a9] 89))) := Below.on HB5.out HAC.out; have g1c := (HAC.out.cell (World.block_lt_of_cell? _ _ HG1.out.2)).trans HG1.out.2; have HFG := fg_any (kid1 (c, k)).1 (kid1 (c, k)).2 (.iface t2 x2) w1.heap.size mb w2 (w6.alloc (.cells #[.string s9, .int .i64 a9] 89)) HK.out.2.2.2 HK.out.2.1 HB2C.out hk1l (HM.out.below HB0C.out)
     clear hb6 HFH HAR g0'; go_wp2_with fail; refine HFG.mono ?_; rintro e w7 ⟨p7, n7, cp7, vs7, rfl, hrow, hb7⟩; have HB57 : Hid (Below w5'.heap.size w5' w7) := Below.on HAC.out hb7; have HB27 : Hid (Below w2.heap.size w2 w7) := Below.on HB25.out HB57.out; have HBA7 : Hid (Below (w.alloc (.cells #[.nilIface, .slice none 0 0] 59)).heap.size (w.alloc (.cells #[.nilIface, .slice none 0 0] 59)) w7) := Below.on HBA5.out HB57.out; have HB7 : Hid (Below w.heap.size w w7) := Below.on HAL.out HBA7.out; have h70 := (HB57.out.cell (World.block_lt_of_cell? _ _ HG1.out.1)).trans HG1.out.1; obtain ⟨bk, k0, k1, f0, s1, sf, m0, m1⟩ := HBX.out w7 HBA7.out
     obtain ⟨ga, ega⟩ : ∃ x, x = (goalsT (kid1 (c, k))).all goodG := ⟨_, rfl⟩
     have ega' : (goalsT ((kid1 (c, k)).1, (kid1 (c, k)).2)).all goodG = ga := ega.symm; rw [ega'] at hrow ⊢
     have HFIN : Hid (FcOut w cs (.returned (.tuple #[.agg #[.iface t1 x1, .slice p7 n7 cp7], .bool (hc && ga)])) ((w7.setCell ⟨w.heap.size, 0, none⟩ (.iface t1 x1)).setCell ⟨w.heap.size, 1, none⟩ (.slice p7 n7 cp7))) := by
      have hBF : Below w.heap.size w ((w7.setCell ⟨w.heap.size, 0, none⟩ (.iface t1 x1)).setCell ⟨w.heap.size, 1, none⟩ (.slice p7 n7 cp7)) := (HB7.out.setCell (p := ⟨w.heap.size, 0, none⟩) (Nat.le_refl _) _).setCell (p := ⟨w.heap.size, 1, none⟩) (Nat.le_refl _) _
      have hfl : flatB (c, k) = (hc && ga) := by
       unfold flatB
       rw [← HSE.out, HHC.out, ega, decide_eq_true HR.out]
       simp
      refine ⟨.iface t1 x1, p7, n7, cp7, .inr ⟨_, _, rfl⟩, hBF, ?_⟩
      cases hh : (hc && ga) with
      | false => exact .inl ⟨rfl, HFB.out (by rw [hfl, hh])⟩
      | true =>
        have hga : ga = true := by simp at hh; exact hh.2
        obtain ⟨r1, r2, r3, r4⟩ := hrow hga
        have hlt1 : w.heap.size < w1.heap.size := by have := HBA1.out.size; simp at this; omega
        refine .inr ⟨rfl, HX.out.2.2.1, c, k, vs7, HX.out.1, HX.out.2.1, by rw [hfl, hh], HX.out.2.2.2, ?_, HK.out.2.2.1, r1, ?_, ?_, r4⟩
        ·exact FoIn.mono (((HK.out.1.below HB27.out).setB hlt1).setB hlt1) (Nat.zero_le _)
        ·refine row_set (row_set (row_mono r2 HB0C.out.size) bk (by decide)) (box_set2 (a := .iface t1 x1) (d := .nilIface) bk).1 (by decide)
        ·exact FoIn.mono (((r3.below HB27.out).setB hlt1).setB hlt1) (Nat.zero_le _)
     clear HFG hb7 hrow ega ega' bk HNO HFB HK HSD HTE HV HAC HB2C HB0C HG1
     cases hc with
     | false =>
       go_wp2_with fail; exact bodyPost_ret (v := .tuple #[.agg #[.iface t1 x1, .slice p7 n7 cp7], .bool false]) (by simp [results, Tryz.results25, go_sem, m0, m1]) rfl HFIN.out
     | true =>
       go_wp2_with fail; exact bodyPost_ret (v := .tuple #[.agg #[.iface t1 x1, .slice p7 n7 cp7], .bool ga]) (by simp [results, Tryz.results25, go_sem, m0, m1]) rfl HFIN.out
  ·have HO := HNO.out (HFB.out (by unfold flatB; rw [decide_eq_false hr]; rfl))
   have HOH : Hid _ := HO
   have HNE : Hid (fA c = 2 → ¬ (fS c).toList = [58, 45]) := fun h2 h1 => hr (HIS.1 ⟨h1, h2⟩)
   generalize fS c = str at HFU HNE
   generalize fA c = ar at HFU HNE
   generalize calC c = cb at HFU
   clear HO HNO HFB HTE HV hr HIS
   by_cases ha : ar = 2
   rotate_right
   case' _ =>
    go_wp2_with fail; refine HFU.mono ?_; rintro e w3 ⟨rfl, hb3⟩; have HAB : Hid (Below w2.heap.size w2 (w3.alloc (.cells #[.string str, .int .i64 ar] 89))) := hb3.alloc hb3.size _; have HBA3 : Hid (Below (w.alloc (.cells #[.nilIface, .slice none 0 0] 59)).heap.size (w.alloc (.cells #[.nilIface, .slice none 0 0] 59)) (w3.alloc (.cells #[.string str, .int .i64 ar] 89))) := Below.on HBA2.out HAB.out; obtain ⟨_, k0, k1, f0, s1, sf, m0, m1⟩ := HBX.out _ HBA3.out; have HO3 : Hid _ := HOH.out (w3.alloc (.cells #[.string str, .int .i64 ar] 89)) (Below.on HAL.out HBA3.out)
   rotate_right
   case' _ =>
    have hns := HNE.out ha; subst ha; go_wp2_with fail; refine HFU.mono ?_; rintro e w3 ⟨rfl, hb3⟩; have HAB : Hid (Below w2.heap.size w2 (w3.alloc (.cells #[.string str, .int .i64 2] 89))) := hb3.alloc hb3.size _; have HBA3 : Hid (Below (w.alloc (.cells #[.nilIface, .slice none 0 0] 59)).heap.size (w.alloc (.cells #[.nilIface, .slice none 0 0] 59)) (w3.alloc (.cells #[.string str, .int .i64 2] 89))) := Below.on HBA2.out HAB.out; obtain ⟨_, k0, k1, f0, s1, sf, m0, m1⟩ := HBX.out _ HBA3.out; have HO3 : Hid _ := HOH.out (w3.alloc (.cells #[.string str, .int .i64 2] 89)) (Below.on HAL.out HBA3.out)
   all_goals
    clear hb3 HFU HOH; go_wp2_with fail; exact bodyPost_ret (v := .tuple #[.agg #[.nilIface, .slice none 0 0], .bool false]) (by simp [results, Tryz.results25, go_sem, m0, m1]) rfl HO3.out
 ·have hv' : validB cs = false := by simpa using hv
  rw [hv'] at HV; have HO : Hid _ := HNO.out (fun h => hv h.1)
  obtain ⟨m, em⟩ : ∃ m, m = cs.length := ⟨_, rfl⟩
  rw [← em] at HV ⊢; clear hxb hn hin hM hv hv' hAL em HNO
  go_enter Tryz.func25, Tryz.ntmps25
  go_wp2_with fail; refine HV.mono ?_; rintro e w1 ⟨rfl, hb1⟩; obtain ⟨_, k0, k1, f0, s1, sf, m0, m1⟩ := HBX.out w1 hb1; have HO1 : Hid _ := HO.out w1 (Below.on HAL.out hb1); clear hb1 HV HO; go_wp2_with fail; exact bodyPost_ret (v := .tuple #[.agg #[.nilIface, .slice none 0 0], .bool false]) (by simp [results, Tryz.results25, go_sem, m0, m1]) rfl HO1.out
end Go.Proofs.YtickbkcpcgmlmaaGreatDoor
