/- Texts of RenN, RenG, Ren2, Items1, Items2, Make1, Cmp1, Cmp2, Cmp3, Cmp4, Cmp5, Cmp6, Cmp7, Cmp8, Cmp9, Cmp10. Own work of the verifier. -/
import Derived.Test.YtdmmchoicngblaaGreatDoorUqah
import Derived.Test.YtdmmchoicngblaaGreatDoorUqad
import Derived.Sort.Grow
import Derived.Shelf.SlSortCmp.WholeK
namespace Go.Proofs.YtdmmchoicngblaaGreatDoor
set_option linter.unusedVariables false
set_option maxRecDepth 100000
section
open Go Go.RowKit Go.Maps
theorem renumber_any (c : Cel) (k : Fo) (v : Value) (Bt : Nat) (w : World) (hok : (Fo.node c k .nil).ok) (hfo : FoIn w Bt (.node c k .nil) [v]) (hl : k.cells.length ≤ 10000) :
  Calls Tryz.prog 201 #[v] w fun e w' => ∃ v', e = .returned v' ∧ FoIn w' w.heap.size (.node (renI (visits [] (c :: k.cells)) c) (k.map (renI (visits [] (c :: k.cells)))) .nil) [v'] ∧ Below w.heap.size w w' := by
 have hmm := @run_makeMap Tryz.prog; obtain ⟨vt, vx, rfl⟩ := hfo.iface; have hW : Below w.heap.size w ((w.alloc (Obj.map #[] 0)).alloc (Obj.cells #[Value.map (some w.heap.size)] 191)) := ((Below.refl _ _).alloc (Nat.le_refl _) _).alloc (by simp) _; have hnew := heap_alloc_new (w.alloc (Obj.map #[] 0)) (Obj.cells #[Value.map (some w.heap.size)] 191)
 have e1 : (w.alloc (Obj.map #[] 0)).heap.size = w.heap.size + 1 := by simp
 rw [e1] at hnew
 have hS : RState ((w.alloc (Obj.map #[] 0)).alloc (Obj.cells #[Value.map (some w.heap.size)] 191)) (w.heap.size + 1) w.heap.size [] := ⟨cell_of_row _ _ 0 _ _ _ hnew, (NumMap.made w).of_block (Below.heap_alloc _ _ _ (by simp))⟩
 have HR := replace_any k.cells.length c k _ Bt (w.heap.size + 1) w.heap.size [] w _ (Nat.le_refl _) hok hfo hW (Nat.le_refl _) hS (by simp; omega); have HW : Hid _ := hW; clear hok hfo hS hW hnew e1
 go_enter Tryz.func201, Tryz.ntmps201
 go_wp2_with fail; refine HR.mono ?_; rintro e w1 ⟨v1, rfl, hst, hg, hf⟩; have hfo := hf _ List.prefix_rfl; obtain ⟨nt, nx, rfl⟩ := hfo.iface; have HF : Hid (FoIn w1 w.heap.size (.node (renI (visits [] (c :: k.cells)) c) (k.map (renI (visits [] (c :: k.cells)))) .nil) [.iface nt nx]) := hfo.mono (by simp; omega); have HB : Hid (Below w.heap.size w w1) := HW.out.trans (grown_below hg (by simp; omega) (Nat.le_refl _)); clear hf hst hg hfo HR; go_wp2_with fail; go_ret; exact ⟨_, rfl, HF.out, HB.out⟩
def renCells (cs : List Cel) : List Cel := cs.map (renI (visits [] cs))
end
section
end
section
open Go Go.RowKit Go.Maps
end
section
open Go Go.RowKit
theorem one_iface (t : TypeId) (x : Value) : ∀ u ∈ [Value.iface t x], u.oneCell' = true := fun u hu => by simp at hu; rw [hu]; rfl
def SplitOut (w0 : World) (Bt : Nat) (w : World) (c : Cel) (k : Fo) (e : Ending) (w' : World) : Prop :=
 ∃ p n cp v vs, e = .returned (.tuple #[.slice p n cp, v]) ∧ n = (splitF c k).1.length ∧ w'.ownsRow w.heap.size 58 1 (.slice p n cp) n vs ∧ FoIn w0 Bt (itsF (splitF c k).1) vs ∧ FoIn w0 Bt (.node (splitF c k).2.1 (splitF c k).2.2 .nil) [v] ∧
   (itsF (splitF c k).1).ok ∧ (Fo.node (splitF c k).2.1 (splitF c k).2.2 .nil).ok ∧ Below w.heap.size w w'
set_option maxHeartbeats 2000000 in
theorem splitList_any (c : Cel) (k : Fo) (v : Value) (Bt : Nat) (w0 w : World) (hok : (Fo.node c k .nil).ok) (hfo : FoIn w0 Bt (.node c k .nil) [v]) (hw : Below w0.heap.size w0 w) (hl : k.cells.length ≤ 10000) :
  Calls Tryz.prog 38 #[v] w (SplitOut w0 Bt w c k) := by
 obtain ⟨vt0, vx0, rfl⟩ := hfo.iface; have HFO : Hid (FoIn w0 Bt (.node c k .nil) [.iface vt0 vx0]) := hfo; have HOK : Hid (Fo.node c k .nil).ok := hok; have HW : Hid (Below w0.heap.size w0 w) := hw; have hws := hw.size; clear hfo hok hw
 go_enter Tryz.func38, Tryz.ntmps38
 go_wp2_with fail
 go_loopw [0, 4] (fun t s wr => ∃ (its : List (Cel × Fo)) (c' : Cel) (k' : Fo) (vt : TypeId) (vx : Value) (vs : List Value) (p4 : Option Addr) (n4 c4 : Nat), n4 + k'.cells.length ≤ 10000 ∧ t = .iface vt vx ∧ s = .slice p4 n4 c4 ∧ Hid (splitF c k = (its ++ (splitF c' k').1, (splitF c' k').2) ∧ n4 = its.length) ∧
  Hid (FoIn w0 Bt (.node c' k' .nil) [.iface vt vx]) ∧ Hid ((Fo.node c' k' .nil).ok ∧ (itsF its).ok) ∧ Hid (FoIn w0 Bt (itsF its) vs) ∧ Hid (wr.ownsRow w.heap.size 58 1 (.slice p4 n4 c4) n4 vs) ∧ Hid (Below w.heap.size w wr)) (fun _ s _ => 10001 - lenOf s)
 case atStart => exact ⟨[], c, k, vt0, vx0, [], none, 0, 0, by omega, rfl, rfl, ⟨rfl, rfl⟩, HFO, ⟨HOK.out, trivial⟩, rfl, World.ownsRow_nil _ _ _ _, Below.refl _ _⟩
 case round =>
  obtain ⟨its, c', k', vt, vx, vs, p4, n4, c4, hn4, rfl, rfl, HF, HT, HO, HI, HR, HB⟩ := hrel
  have stop : ∀ W, Below wr.heap.size wr W → splitF c' k' = ([], (c', k')) → SplitOut w0 Bt w c k (.returned (.tuple #[.slice p4 n4 c4, .iface vt vx])) W := fun W hW h => by
   have h1 := HF.out.1; rw [h, List.append_nil] at h1; refine ⟨p4, n4, c4, _, vs, rfl, by rw [h1]; exact HF.out.2, row_below HR.out hW, by rw [h1]; exact HI.out, by rw [h1]; exact HT.out, by rw [h1]; exact HO.out.2, by rw [h1]; exact HO.out.1, Below.on HB.out hW⟩
  have STOP : Hid _ := stop; clear stop; obtain ⟨v', vr, e, hnode, _⟩ := HT.out; obtain ⟨rfl, rfl⟩ := List.cons.inj e; clear e
  have leaf : ∀ c0, c'.1 = c0 → c0 ≠ 3 → splitF c' k' = ([], (c', k')) := fun c0 h1 h2 => splitF_other _ _ (fun e => h2 (by rw [← h1, e]; rfl))
  rcases hnode with ⟨h0, hv⟩ | ⟨h0, hv⟩ | ⟨h0, hv⟩ | ⟨h0, b, g, kv, hv, hcomp⟩
  ·obtain ⟨rfl, rfl⟩ : vt = 82 ∧ vx = .int .i64 c'.2.1 := by injection hv with h1 h2; exact ⟨h1, h2⟩
   have HL : Hid _ := STOP.out wr (Below.refl _ _) (leaf 0 h0 (by decide)); have n1 := noComp_var
   obtain ⟨x, ex⟩ : ∃ x, x = Value.int .i64 c'.2.1 := ⟨_, rfl⟩
   rw [← ex] at HL ⊢; clear leaf h0 hv ex STOP HT HI HR HO; go_wp2_with fail
   go_ret2
   exact HL.out
  ·obtain ⟨rfl, rfl⟩ : vt = 150 ∧ vx = .int .i64 c'.2.1 := by injection hv with h1 h2; exact ⟨h1, h2⟩
   have HL : Hid _ := STOP.out wr (Below.refl _ _) (leaf 1 h0 (by decide)); have n1 := noComp_num
   obtain ⟨x, ex⟩ : ∃ x, x = Value.int .i64 c'.2.1 := ⟨_, rfl⟩
   rw [← ex] at HL ⊢; clear leaf h0 hv ex STOP HT HI HR HO; go_wp2_with fail
   go_ret2
   exact HL.out
  ·obtain ⟨rfl, rfl⟩ : vt = 94 ∧ vx = .string (strOfNums c'.2.2) := by injection hv with h1 h2; exact ⟨h1, h2⟩
   have HL : Hid _ := STOP.out wr (Below.refl _ _) (leaf 2 h0 (by decide)); have n1 := noComp_atom
   obtain ⟨x, ex⟩ : ∃ x, x = Value.string (strOfNums c'.2.2) := ⟨_, rfl⟩
   rw [← ex] at HL ⊢; clear leaf h0 hv ex STOP HT HI HR HO; go_wp2_with fail
   go_ret2
   exact HL.out
  ·obtain ⟨rfl, rfl⟩ : vt = 139 ∧ vx = .pointer (some ⟨b, 0, none⟩) := by injection hv with h1 h2; exact ⟨h1, h2⟩
   have n1 := isComp; have hwr : Below w0.heap.size w0 wr := HW.out.trans (HB.out.mono hws); have hkc := FoIn.count _ _ hcomp.2.2.2.2.2.2; have hcn := HO.out.1.2.2.1 h0
   obtain ⟨q, eq⟩ : ∃ q, q = kv.length := ⟨_, rfl⟩
   have d0 := (hwr.cell (World.block_lt_of_cell? _ _ hcomp.2.2.1)).trans hcomp.2.2.1; have d1 := (hwr.cell (World.block_lt_of_cell? _ _ hcomp.2.2.2.1)).trans hcomp.2.2.2.1; rw [← eq] at d1; have hstr := str_eq HO.out.1.2.1 [46]
   have HSQ : Hid (c'.2.1 = q) := by show _ = _; rw [hcn, ← hkc, eq]
   obtain ⟨str, es⟩ : ∃ str, str = strOfNums c'.2.2 := ⟨_, rfl⟩
   rw [← es] at d0 hstr; have HFU := functor_any b g q str wr d0 d1; have HC : Hid (CompAt w0 Bt c'.2.2 k' b g kv) := hcomp
   have hqb : q ≤ 10000 := by have := Fo.count_le k'; omega
   by_cases hs : c'.2.2 = [46]
   ·have hs' : str.toList = [46] := hstr.2 (by rw [hs]; rfl)
    by_cases hq : q = 2
    ·have hdot : c' = dot := by
      have h1 := HSQ.out; obtain ⟨a1, a2, a3⟩ := c'; simp only at h0 hs h1; rw [h0, hs, h1, hq]; rfl
     obtain ⟨c1, k1, c2, k2, rfl⟩ := two_of (k := k') (by rw [← hkc, ← eq, hq]); obtain ⟨v1, vr1, e1, hn1, v2, vr2, e2, hn2, e3⟩ := hcomp.2.2.2.2.2.2; have e3' : vr2 = [] := e3; subst e3' e2; subst e1; obtain ⟨t1, x1, rfl⟩ := hn1.iface; obtain ⟨t2, x2, rfl⟩ := hn2.iface; have g0 := (hwr.cell (World.block_lt_of_cell? _ _ (hcomp.2.2.2.2.2.1 0 (by simp)))).trans (hcomp.2.2.2.2.2.1 0 (by simp)); have g1 := (hwr.cell (World.block_lt_of_cell? _ _ (hcomp.2.2.2.2.2.1 1 (by simp)))).trans (hcomp.2.2.2.2.2.1 1 (by simp)); simp only [List.getD_cons_zero, List.getD_cons_succ] at g0 g1
     have HG : Hid (b < w0.heap.size ∧ g < w0.heap.size) := ⟨World.block_lt_of_cell? _ _ hcomp.2.2.1, hcomp.2.2.2.2.1⟩
     have HNEXT : Hid (splitF c k = ((its ++ [(c1, k1)]) ++ (splitF c2 k2).1, (splitF c2 k2).2) ∧ FoIn w0 Bt (.node c2 k2 .nil) [.iface t2 x2] ∧ ((Fo.node c2 k2 .nil).ok ∧ (itsF (its ++ [(c1, k1)])).ok) ∧ FoIn w0 Bt (itsF (its ++ [(c1, k1)])) (vs ++ [.iface t1 x1]) ∧ (its ++ [(c1, k1)]).length = n4 + 1) := by
      have hk := HO.out.1.2.2.2.2.1; refine ⟨?_, ⟨_, [], rfl, hn2, rfl⟩, ⟨hk.2.2.2.2.2, ?_⟩, ?_, by simp [HF.out.2]⟩
      ·rw [HF.out.1, hdot, splitF_dot]; simp
      ·rw [itsF_snoc, Fo.ok_cat]
       exact ⟨HO.out.2, hk.1, hk.2.1, hk.2.2.1, hk.2.2.2.1, hk.2.2.2.2.1, trivial⟩
      ·rw [itsF_snoc]
       exact FoIn.cat _ _ _ _ HI.out ⟨_, [], rfl, hn1, rfl⟩
     have hnn : n4 + 1 + k2.cells.length ≤ 10000 := by simp [Fo.cells] at hn4; omega
     subst hq; have HROW : Hid (wr.ownsRow w.heap.size 58 1 (.slice p4 n4 c4) n4 vs) := HR.out; have hBs : w.heap.size ≤ wr.heap.size := HB.out.size; obtain ⟨i0, hi, hz0, hz1, hz2⟩ := info_parts infoTerm; have HWS : Hid (w0.heap.size ≤ w.heap.size) := hws; clear leaf h0 hv STOP HT HO HI HR HF hcomp hkc hcn eq es hstr hs hdot hn1 hn2 e3 hwr HSQ hn4 HFO HOK; go_wp2_with fail; refine HFU.mono ?_; rintro e w2 ⟨rfl, hb2⟩; have f0 := (hb2.cell (World.block_lt_of_cell? _ _ d1)).trans d1; have f1 := (hb2.cell (World.block_lt_of_cell? _ _ g0)).trans g0; have f2 := (hb2.cell (World.block_lt_of_cell? _ _ g1)).trans g1; have HR2 : Hid (w2.ownsRow w.heap.size 58 1 (.slice p4 n4 c4) n4 vs) := row_below HROW.out hb2; have HB2 : Hid (Below w.heap.size w w2) := Below.on HB.out hb2; have hBs2 : w.heap.size ≤ w2.heap.size := HB2.out.size; clear d0 d1 g0 g1 hb2 HROW HFU; go_wp2_with fail
     go_region_held3 (fun W => W.cell? ⟨b, 1, none⟩ = some (.slice (some ⟨g, 0, none⟩) 2 2) ∧ W.cell? ⟨g, 0, none⟩ = some (.iface t1 x1) ∧ W.cell? ⟨g, 1, none⟩ = some (.iface t2 x2))
      (first | exact kk | go_keep)
      ((refine step_append_lies _ rfl _ _ 83 rfl w.heap.size 58 i0 .nilIface 1 16 Tryz.underlying83 hi hz0 hz1 hz2 rfl (by decide) (.slice p4 n4 c4) n4 vs rfl (World.ownsRow.alloc (w := w2.drew) HR2.out _) ⟨w2.heap.size, 0, none⟩ 1 1 [.iface t1 x1] rfl rfl (cell_one_new (w2.drew) _ _) (one_iface t1 x1) (by decide) (by unfold maxLen; omega) (by omega) (by simp; omega) _ rfl ?_; intro g5 cap5 w5 hown5 hgrow5 hat5 hlt5; have hb5 : Below w.heap.size (w2.drew.alloc (Obj.cells #[.iface t1 x1] 58)) w5 := (Below.refl _ _).grown hgrow5 (by simp; omega) (fun k hk => (HR2.out.lt k hk).1); have kk : w5.cell? ⟨b, 1, none⟩ = some (.slice (some ⟨g, 0, none⟩) 2 2) ∧ w5.cell? ⟨g, 0, none⟩ = some (.iface t1 x1) ∧ w5.cell? ⟨g, 1, none⟩ = some (.iface t2 x2) := ⟨(hb5.cell (show b < w.heap.size by have := HG.out; have := HWS.out; omega)).trans (Lib.cell?_alloc_marked (W := w2.drew) _ f0), (hb5.cell (show g < w.heap.size by have := HG.out; have := HWS.out; omega)).trans (Lib.cell?_alloc_marked (W := w2.drew) _ f1), (hb5.cell (show g < w.heap.size by have := HG.out; have := HWS.out; omega)).trans (Lib.cell?_alloc_marked (W := w2.drew) _ f2)⟩))
     have HO5 : Hid (w5.ownsRow w.heap.size 58 1 (.slice (some ⟨g5, 0, none⟩) (n4 + 1) cap5) (n4 + 1) (vs ++ [Value.iface t1 x1])) := hown5; have HB5 : Hid (Below w.heap.size w w5) := ((HB2.out.drew).alloc hBs2 _).trans hb5; clear hown5 hgrow5 hat5 hb5 kk f0 f1 f2 hi hz0 hz1 hz2; go_wp2_with fail; go_roundw
     case rel => exact ⟨its ++ [(c1, k1)], c2, k2, t2, x2, vs ++ [Value.iface t1 x1], _, n4 + 1, cap5, hnn, rfl, rfl, ⟨HNEXT.out.1, HNEXT.out.2.2.2.2.symm⟩, HNEXT.out.2.1, HNEXT.out.2.2.1, HNEXT.out.2.2.2.1, HO5, HB5⟩
     case measure => simp [lenOf]; omega
    ·have hq' : ¬ ((q : Int) = 2) := by omega
     have HL : Hid _ := fun W hW => STOP.out W hW (splitF_other _ _ (fun e => hq (by have h1 := HSQ.out; rw [e] at h1; simp [dot] at h1; omega)))
     clear leaf h0 hv STOP HT HO HI HR HF hcomp hkc hcn eq es hstr hs hq HSQ hwr d0 d1; go_wp2_with fail; refine HFU.mono ?_; rintro e w2 ⟨rfl, hb2⟩; go_wp2_with fail
     go_ret2
     exact HL.out _ hb2
   ·have hs' : ¬ str.toList = [46] := fun h => hs (by have := hstr.1 h; simpa using this)
    have HL : Hid _ := fun W hW => STOP.out W hW (splitF_other _ _ (fun e => hs (by rw [e]; rfl)))
    clear leaf h0 hv STOP HT HO HI HR HF hcomp hkc hcn eq es hstr hs HSQ hwr d0 d1; go_wp2_with fail; refine HFU.mono ?_; rintro e w2 ⟨rfl, hb2⟩; go_wp2_with fail
    go_ret2
    exact HL.out _ hb2
theorem FoIn.at_ {w : World} {B : Nat} : ∀ (its : List (Cel × Fo)) (vs : List Value), FoIn w B (itsF its) vs → ∀ i (h : i < its.length), ∃ t x, vs[i]? = some (.iface t x) ∧ FoIn w B (.node its[i].1 its[i].2 .nil) [.iface t x]
 | [], vs, _, i, h => by simp at h
 | a :: r, vs, ⟨v, vr, e, hn, hr⟩, 0, _ => by
   obtain ⟨t, x, rfl⟩ := hn.iface; exact ⟨t, x, by rw [e]; rfl, _, [], rfl, hn, rfl⟩
 | a :: r, vs, ⟨v, vr, e, hn, hr⟩, i + 1, h => by
   obtain ⟨t, x, h1, h2⟩ := FoIn.at_ r vr hr i (by simpa using h); exact ⟨t, x, by rw [e]; simpa using h1, by simpa using h2⟩
theorem neq_atom (w : World) (a b : ByteArray) : (binOp .neq 58 (.iface 94 (.string a)) (.iface 94 (.string b))).run Tryz.prog w = .ok (.bool (!(a == b))) w := by kernel_rfl
theorem neq_var (w : World) (x : Value) (b : ByteArray) : (binOp .neq 58 (.iface 82 x) (.iface 94 (.string b))).run Tryz.prog w = .ok (.bool true) w := by kernel_rfl
theorem neq_num (w : World) (x : Value) (b : ByteArray) : (binOp .neq 58 (.iface 150 x) (.iface 94 (.string b))).run Tryz.prog w = .ok (.bool true) w := by kernel_rfl
theorem neq_comp (w : World) (x : Value) (b : ByteArray) : (binOp .neq 58 (.iface 139 x) (.iface 94 (.string b))).run Tryz.prog w = .ok (.bool true) w := by kernel_rfl
def itemsR (c : Cel) (k : Fo) : List (List Cel) × Int := if (splitF c k).2.1 = nilC then ((splitF c k).1.map itC, 0) else ([], 4)
def ItemsOut (w : World) (css : List (List Cel)) (code : Int) (e : Ending) (w' : World) : Prop :=
 ∃ p n cp, e = .returned (.tuple #[.slice p n cp, .int .i64 code]) ∧ OwnCC w' w.heap.size w'.heap.size p n cp css ∧ Below w.heap.size w w'
theorem end_neq {w : World} {Bt : Nat} {c : Cel} {k : Fo} {t : TypeId} {x : Value} (hok : (Fo.node c k .nil).ok) (h : FoIn w Bt (.node c k .nil) [.iface t x]) (W : World) :
  (binOp .neq 58 (.iface t x) (.iface 94 (.string ⟨#[91, 93]⟩))).run Tryz.prog W = .ok (.bool (!decide (c = nilC))) W := by
 obtain ⟨v', vr, e, hnode, _⟩ := h; obtain ⟨rfl, rfl⟩ := List.cons.inj e
 have oth : c.1 ≠ 2 → (!decide (c = nilC)) = true := fun h0 => by
  have : c ≠ nilC := fun e => h0 (by rw [e]; rfl)
  simpa using this
 rcases hnode with ⟨h0, hv⟩ | ⟨h0, hv⟩ | ⟨h0, hv⟩ | ⟨h0, b, g, kv, hv, _⟩
 ·rw [hv, neq_var, oth (by rw [h0]; decide)]
 ·rw [hv, neq_num, oth (by rw [h0]; decide)]
 ·have hc1 : c.2.1 = 0 := by have := hok.1; rw [h0] at this; simp [cellB] at this; exact this.2
  have e1 := str_beq hok.2.1 [91, 93]; rw [hv, neq_atom]
  have e2 : (strOfNums c.2.2 == (⟨#[91, 93]⟩ : ByteArray)) = decide (c = nilC) := by
   rw [e1]
   congr 1
   rw [eq_iff_iff]
   constructor
   ·intro h
    obtain ⟨a, b, d⟩ := c; simp only at h0 hc1 h; rw [h0, hc1, h]; rfl
   ·intro h; rw [h]; rfl
  rw [e2]
 ·rw [hv, neq_comp, oth (by rw [h0]; decide)]
set_option maxHeartbeats 1000000 in
theorem implItems_any (cs : List Cel) (p : Option Addr) (n cap : Nat) (c : Cel) (k : Fo) (w : World) (hok : (Fo.node c k .nil).ok) (hcs : cs = c :: k.cells) (hlen : cs.length ≤ 2000) (hvl : validB cs = true) (hn : n = cs.length) (hc : n ≤ cap) (hm : cap ≤ 9223372036854775807) (hin : CIn w p cs) :
  Calls Tryz.prog 17 #[.slice p n cap] w (ItemsOut w (itemsR c k).1 (itemsR c k).2) := by
 subst hn; have HV := implValid_any p cap cs w (by omega) hin; rw [hvl] at HV; have HI : Hid (CIn w p cs) := hin
 have HOK : Hid ((Fo.node c k .nil).ok ∧ cs = c :: k.cells) := ⟨hok, hcs⟩
 have hkl : k.cells.length ≤ 10000 := by rw [hcs] at hlen; simp at hlen; omega
 have HSZ : Hid _ := split_size k.cells.length c k (Nat.le_refl _); clear hin hok hcs hvl
 go_enter Tryz.func17, Tryz.ntmps17
 go_wp2_with fail; refine HV.mono ?_; rintro e w1 ⟨rfl, hb1⟩; have HB1 : Hid (Below w.heap.size w w1) := hb1; have HT := termOf_any c k p cs.length cap w1 HOK.out.1 (by rw [HOK.out.2]; simp) hc (by omega) (by rw [← HOK.out.2]; exact HI.out.below hb1); clear hb1 HV; go_wp2_with fail; refine HT.mono ?_; rintro e w2 ⟨v, rfl, hfo, hb2⟩; have HB2 : Hid (Below w.heap.size w w2) := Below.on HB1.out hb2; have HSP := splitList_any c k v _ w2 w2 HOK.out.1 hfo (Below.refl _ _) hkl; obtain ⟨vt, vx, rfl⟩ := hfo.iface; clear hfo hb2 HT; go_wp2_with fail; refine HSP.mono ?_; rintro e w3 ⟨ps, ns, cps, ve, vs, rfl, hns, hrow, hits, hend, hoki, hoke, hb3⟩; obtain ⟨et, ex, rfl⟩ := hend.iface
 have hneq := fun W => end_neq hoke hend W
 have HB3 : Hid (Below w.heap.size w w3) := Below.on HB2.out hb3; have HW3 : Hid (Below w2.heap.size w2 w3) := hb3; have HITS : Hid _ := hits; have HOKI : Hid (itsF (splitF c k).1).ok := hoki; have HNS : Hid (ns = (splitF c k).1.length) := hns; have HROW : Hid (w3.ownsRow w2.heap.size 58 1 (.slice ps ns cps) ns vs) := hrow
 have hnsb : ns ≤ 2000 := by
  have h1 := HSZ.out.1
  have h2 : ∀ l : List (Cel × Fo), l.length ≤ (l.map (fun x => (itC x).length)).sum := fun l => by
   induction l with
   | nil => simp
   | cons a r ih => simp only [List.map_cons, List.sum_cons, List.length_cons, itC]; simp only [itC, List.length_cons] at ih; omega
  have h3 := h2 (splitF c k).1; have h4 := HOK.out.2; rw [h4] at hlen
  simp at hlen
  omega
 have hBs : w.heap.size ≤ w3.heap.size := HB3.out.size; clear hb3 hits hend hoki hoke hns hrow HSP
 by_cases he : (splitF c k).2.1 = nilC
 ·have hneq' : ∀ W, (binOp .neq 58 (.iface et ex) (.iface 94 (.string ⟨#[91, 93]⟩))).run Tryz.prog W = .ok (.bool false) W := fun W => by rw [hneq W]; simp [he]
  have HR : Hid (itemsR c k = ((splitF c k).1.map itC, 0)) := by show _ = _; rw [itemsR, if_pos he]
  clear hneq he; go_wp2_with fail
  go_loopw [6, 23] (fun s i wr => ∃ (j : Nat) (p4 : Option Addr) (n4 c4 : Nat), j ≤ ns ∧ n4 = j ∧ i = .int .i64 j ∧ s = .slice p4 n4 c4 ∧ Hid (OwnCC wr w3.heap.size wr.heap.size p4 n4 c4 (((splitF c k).1.take j).map itC)) ∧ Hid (Below w3.heap.size w3 wr)) (fun _ i _ => ns - (intOf i).toNat)
  case atStart => exact ⟨0, none, 0, 0, Nat.zero_le _, rfl, rfl, rfl, OwnCC.nil _ _ _, Below.refl _ _⟩
  case round =>
   obtain ⟨j, p4, n4, c4, hj, rfl, rfl, rfl, HO, HB⟩ := hrel
   by_cases hlt : n4 < ns
   ·have hjl : n4 < (splitF c k).1.length := by rw [← HNS.out]; exact hlt
    obtain ⟨g, cc, hv, hbg, hgs⟩ := HROW.out.form (by omega); simp only [Value.slice.injEq, true_and] at hv; obtain ⟨rfl, rfl⟩ := hv; obtain ⟨it, ix, hx1, hx2⟩ := FoIn.at_ _ _ HITS.out n4 hjl; have d0 : wr.cell? ⟨g, n4, none⟩ = some (.iface it ix) := (HB.out.cell (p := ⟨g, n4, none⟩) hgs).trans ((HROW.out.cellAt n4 (by omega)).trans hx1); have hx3 := (hx2.below HW3.out).below HB.out; have HCO := cellsOf_any _ _ _ _ wr (itsF_ok_at _ HOKI.out n4 hjl) hx3 (by have := HSZ.out.2 _ (List.getElem_mem hjl); omega)
    have HX : Hid (((splitF c k).1.take n4).map itC ++ [itC (splitF c k).1[n4]] = ((splitF c k).1.take (n4 + 1)).map itC) := by
     show _ = _
     rw [List.take_succ_eq_append_getElem hjl, List.map_append]; rfl
    have hBw : w3.heap.size ≤ wr.heap.size := HB.out.size; clear hx1 hx2 hx3; go_wp2_with fail; refine HCO.mono ?_; rintro e w5 ⟨q5, m5, c5, rfl, ho5, hb5⟩; have HO5 : Hid (OwnC w5 wr.heap.size q5 m5 c5 (itC (splitF c k).1[n4])) := ho5; have HB5 : Hid (Below wr.heap.size wr w5) := hb5; clear ho5 hb5 HCO d0; go_wp2_with (at_builtin; refine app_item wr w5 rfl _ _ rfl w3.heap.size p4 n4 c4 _ rfl HO.out HB5.out hBw q5 m5 c5 _ HO5.out rfl (by omega) ?_; intro g6 n6 cap6 w6 hown6 hb6 hn6)
    have HO6 : Hid (OwnCC w6 w3.heap.size w6.heap.size (some ⟨g6, 0, none⟩) n6 cap6 (((splitF c k).1.take (n4 + 1)).map itC)) := by rw [← HX.out]; exact hown6
    have HB6 : Hid (Below w3.heap.size w3 w6) := (Below.on HB.out (HB5.out.alloc HB5.out.size _)).trans hb6; have HN6 : Hid (n6 = n4 + 1) := hn6.out; clear hown6 hb6 hn6; go_roundw
    case rel => exact ⟨n4 + 1, _, _, _, by omega, HN6.out, by go_num, rfl, HO6, HB6⟩
    case measure => simp [intOf]; omega
   ·obtain rfl : n4 = ns := by omega
    have HFIN : Hid (ItemsOut w (itemsR c k).1 (itemsR c k).2 (.returned (.tuple #[.slice p4 n4 c4, .int .i64 0])) wr) := by
     rw [HR.out]; refine ⟨_, _, _, rfl, ?_, HB3.out.trans (HB.out.mono hBs)⟩; have := HO.out.down hBs
     rwa [List.take_of_length_le (by rw [← HNS.out]; exact Nat.le_refl _)] at this
    go_wp2_with fail
    go_ret2
    exact HFIN.out
 ·have hneq' : ∀ W, (binOp .neq 58 (.iface et ex) (.iface 94 (.string ⟨#[91, 93]⟩))).run Tryz.prog W = .ok (.bool true) W := fun W => by rw [hneq W]; simp [he]
  have HFIN : Hid (ItemsOut w (itemsR c k).1 (itemsR c k).2 (.returned (.tuple #[.slice none 0 0, .int .i64 4])) w3) := by
   show ItemsOut _ _ _ _ _
   rw [itemsR, if_neg he]; exact ⟨_, _, _, rfl, OwnCC.nil _ _ _, HB3.out⟩
  clear hneq he; go_wp2_with fail
  go_ret2
  exact HFIN.out
def cmpR (xs ys : List Cel) : Int × Int := if validB xs = true ∧ validB ys = true then (cmpC xs ys, 0) else (0, 1)
theorem isNaNi_any (x : Int) (w : World) : Calls Tryz.prog 183 #[.int .i64 x] w fun e w' => e = .returned (.bool false) ∧ w' = w := by
 go_enter Tryz.func183, Tryz.ntmps183
 go_wp2_with fail; go_ret; exact ⟨rfl, rfl⟩
theorem isNaNs_any (x : ByteArray) (w : World) : Calls Tryz.prog 242 #[.string x] w fun e w' => e = .returned (.bool false) ∧ w' = w := by
 go_enter Tryz.func242, Tryz.ntmps242
 go_wp2_with fail; go_ret; exact ⟨rfl, rfl⟩
theorem compareI_any (x y : Int) (w : World) : Calls Tryz.prog 122 #[.int .i64 x, .int .i64 y] w fun e w' => e = .returned (.int .i64 (cmpI x y)) ∧ w' = w := by
 have H1 := isNaNi_any x w; have H2 := isNaNi_any y w
 have fin : ∀ c, c = cmpI x y → Ending.returned (.int .i64 c) = .returned (.int .i64 (cmpI x y)) := fun c h => ret_int h
 have FIN : Hid _ := fin; clear fin
 by_cases h1 : x < y
 rotate_right
 case' _ =>
  by_cases h2 : y < x
  rotate_right
  case' _ =>
   have HF : Hid _ := FIN.out 0 (by rw [cmpI, if_neg h1, if_neg h2])
  rotate_right
  case' _ =>
   have HF : Hid _ := FIN.out 1 (by rw [cmpI, if_neg h1, if_pos h2])
 rotate_right
 case' _ =>
  have HF : Hid _ := FIN.out (-1) (by rw [cmpI, if_pos h1])
 all_goals
  go_enter Tryz.func122, Tryz.ntmps122
  go_wp2_with fail; refine H1.mono ?_; rintro e w1 ⟨rfl, rfl⟩; go_wp2_with fail; refine H2.mono ?_; rintro e w1 ⟨rfl, rfl⟩; go_wp2_with fail; go_ret; exact ⟨HF.out, rfl⟩
theorem compareS_any (x y : ByteArray) (w : World) : Calls Tryz.prog 182 #[.string x, .string y] w fun e w' => e = .returned (.int .i64 (cmpS x y)) ∧ w' = w := by
 have H1 := isNaNs_any x w; have H2 := isNaNs_any y w
 have fin : ∀ c, c = cmpS x y → Ending.returned (.int .i64 c) = .returned (.int .i64 (cmpS x y)) := fun c h => ret_int h
 have FIN : Hid _ := fin; clear fin
 cases h1 : Op.bytesLess x.toList y.toList
 rotate_right
 case' _ =>
  have HF : Hid _ := FIN.out (-1) (by rw [cmpS, if_pos h1])
 rotate_right
 case' _ =>
  cases h2 : (x.toList == y.toList)
  rotate_right
  case' _ =>
   have HF : Hid _ := FIN.out 0 (by rw [cmpS, if_neg (by rw [h1]; simp), if_pos h2])
  rotate_right
  case' _ =>
   have HF : Hid _ := FIN.out 1 (by rw [cmpS, if_neg (by rw [h1]; simp), if_neg (by rw [h2]; simp)])
 all_goals
  go_enter Tryz.func182, Tryz.ntmps182
  go_wp2_with fail; refine H1.mono ?_; rintro e w1 ⟨rfl, rfl⟩; go_wp2_with fail; refine H2.mono ?_; rintro e w1 ⟨rfl, rfl⟩; go_wp2_with fail; go_ret; exact ⟨HF.out, rfl⟩
end
section
open Go Go.RowKit Go.Sort
def funCmp (x y : Fun) : Int := orI (cmpI x.2 y.2) (cmpS x.1 y.1)
set_option maxHeartbeats 1000000 in
theorem compareFunctors_any (x y : Fun) (w : World) : Calls Tryz.prog 119 #[.agg #[.string x.1, .int .i64 x.2], .agg #[.string y.1, .int .i64 y.2]] w fun e w' => e = .returned (.int .i64 (funCmp x y)) ∧ ∃ q os', w' = grow (w.drewN q) os' := by
 have hI := fun W => compareI_any x.2 y.2 W
 have hS := fun W => compareS_any x.1 y.1 W
 rw [funCmp]
 generalize cmpI x.2 y.2 = ci at hI ⊢
 generalize cmpS x.1 y.1 = cs at hS ⊢
 obtain ⟨x1, x2⟩ := x; obtain ⟨y1, y2⟩ := y; simp only at hI hS ⊢
 have hO : ∀ (b : Nat) (W : World), W.cell? ⟨b, 0, none⟩ = some (.int .i64 ci) → W.cell? ⟨b, 1, none⟩ = some (.int .i64 cs) → Calls Tryz.prog 121 #[.slice (some ⟨b, 0, none⟩) 2 2] W fun e w' => e = .returned (.int .i64 (orI ci cs)) ∧ w' = W := fun b W h0 h1 => or_any b ci cs W h0 h1
 generalize orI ci cs = co at hO ⊢
 have HI : Hid _ := hI; have HS : Hid _ := hS; have HO : Hid _ := hO; clear hI hS hO
 go_enter Tryz.func119, Tryz.ntmps119
 go_wp2_with fail; obtain ⟨a0, a1⟩ := pair_new w (.string x1) (.int .i64 x2) 78; obtain ⟨b0, b1⟩ := pair_new (w.alloc (.cells #[.string x1, .int .i64 x2] 78)) (.string y1) (.int .i64 y2) 78; have hb : Below (w.heap.size + 1) (w.alloc (.cells #[.string x1, .int .i64 x2] 78)) ((w.alloc (.cells #[.string x1, .int .i64 x2] 78)).alloc (.cells #[.string y1, .int .i64 y2] 78)) := (Below.refl _ _).alloc (by simp) _; have a0' := (hb.cell (p := ⟨w.heap.size, 0, none⟩) (by simp)).trans a0; have a1' := (hb.cell (p := ⟨w.heap.size, 1, none⟩) (by simp)).trans a1; rw [World.size_alloc] at b0 b1
 have HG : Hid (∃ os, (w.alloc (.cells #[.string x1, .int .i64 x2] 78)).alloc (.cells #[.string y1, .int .i64 y2] 78) = grow w os) := ⟨_, by rw [alloc_eq_grow, alloc_eq_grow, grow_grow]⟩
 clear hb a0 a1
 generalize (w.alloc (.cells #[.string x1, .int .i64 x2] 78)).alloc (.cells #[.string y1, .int .i64 y2] 78) = W2 at *
 go_region_held3 (fun W => (W.cell? ⟨w.heap.size, 0, none⟩ = some (.string x1) ∧ W.cell? ⟨w.heap.size, 1, none⟩ = some (.int .i64 x2)) ∧ W.cell? ⟨w.heap.size + 1, 0, none⟩ = some (.string y1) ∧ W.cell? ⟨w.heap.size + 1, 1, none⟩ = some (.int .i64 y2))
  (go_keep)
  (first
    | (go_at_call 122; refine (HI.out _).mono ?_; rintro e w' ⟨rfl, rfl⟩)
    | (go_at_call 182; refine (HS.out _).mono ?_; rintro e w' ⟨rfl, rfl⟩)
    | (go_at_call 121; refine (HO.out _ _ (by exact (pair_new W2 _ _ _).1) (by exact (pair_new W2 _ _ _).2)).mono ?_; rintro e w' ⟨rfl, rfl⟩))
 all_goals go_wp2_with fail
 all_goals go_ret
 obtain ⟨os, hos⟩ := HG.out; exact ⟨rfl, 1, _, by rw [hos, alloc_eq_grow, grow_grow, drew_grow]; rfl⟩
end
section
end
section
open Go Go.RowKit Go.Maps
instance decBA : DecidableEq ByteArray := fun a b => decidable_of_iff (a.data = b.data) ⟨fun h => by cases a; cases b; simp_all, fun h => by rw [h]⟩
noncomputable instance decMem (f : Fun) (ks : List Fun) : Decidable (f ∈ ks) := Classical.propDecidable _
def okF (f : Fun) : Prop := f.1.size ≤ 1000000 ∧ 0 ≤ f.2 ∧ f.2 ≤ 1000000
def FunMap (w : World) (b N : Nat) (ks : List Fun) (rk : Fun → Int) : Prop := ∃ D : DataW Unit, w.ownsMap Tryz.prog 78 (plainElem Tryz.prog 3) b N D ∧ (∀ f ∈ ks, okF f) ∧ Maps.size D = ks.length ∧ (∀ f l, keyOf Tryz.prog 78 (.agg #[.string f.1, .int .i64 f.2]) = some l → Maps.has D l = decide (f ∈ ks)) ∧
 (∀ f ∈ ks, D.atKey (fk f) (.lit (.int .i64 0)) = .lit (.int .i64 (rk f)))
theorem FunMap.lt {w : World} {b N : Nat} {ks : List Fun} {rk : Fun → Int} (h : FunMap w b N ks rk) : b < w.heap.size := by obtain ⟨D, h, _⟩ := h; exact h.lt
theorem FunMap.of_block {w w' : World} {b N : Nat} {ks : List Fun} {rk : Fun → Int} (h : FunMap w b N ks rk) (hb : w'.heap[b]? = w.heap[b]?) : FunMap w' b N ks rk := by
 obtain ⟨D, ⟨es, clock, h1, r⟩, h2⟩ := h; exact ⟨D, ⟨es, clock, hb.trans h1, r⟩, h2⟩
theorem FunMap.below {w w' : World} {b N : Nat} {ks : List Fun} {rk : Fun → Int} (h : FunMap w b N ks rk) (hb : Below w.heap.size w w') : FunMap w' b N ks rk := h.of_block (hb.block _ h.lt)
theorem FunMap.made (w : World) (rk : Fun → Int) : FunMap (w.alloc (.map #[] 0)) w.heap.size 0 [] rk := ⟨_, World.ownsMap_made _ _ _ _, fun _ h => by simp at h, rfl, fun f l _ => by simp; rfl, fun x hx => by cases hx⟩
noncomputable def putF (ks : List Fun) (f : Fun) : List Fun := if f ∈ ks then ks else ks ++ [f]
theorem fk_lit (f : Fun) : WideAt.IsKeyLit (fk f) := trivial
theorem FunMap.put {w : World} {b N : Nat} {ks : List Fun} {rk : Fun → Int} (h : FunMap w b N ks rk) (f : Fun) (hf : okF f) (r : Int) (D : DataW Unit) (hD : w.ownsMap Tryz.prog 78 (plainElem Tryz.prog 3) b N D ∧ (∀ f ∈ ks, okF f) ∧ Maps.size D = ks.length ∧ (∀ f l, keyOf Tryz.prog 78 (.agg #[.string f.1, .int .i64 f.2]) = some l → Maps.has D l = decide (f ∈ ks)) ∧
  (∀ f ∈ ks, D.atKey (fk f) (.lit (.int .i64 0)) = .lit (.int .i64 (rk f)))) {w' : World} (h' : w'.ownsMap Tryz.prog 78 (plainElem Tryz.prog 3) b (N + 1) (D.put (fk f) (.lit (.int .i64 r)))) :
  FunMap w' b (N + 1) (putF ks f) (fun g => if g = f then r else rk g) := by
 obtain ⟨hown, hok, hsz, hhas, hat⟩ := hD; have hm := hown.isMap
 have hokP : ∀ g ∈ putF ks f, okF g := fun g hg => by
  unfold putF at hg
  split at hg
  ·exact hok g hg
  ·rcases List.mem_append.1 hg with h | h
   ·exact hok g h
   ·simp at h; rw [h]; exact hf
 refine ⟨_, h', hokP, ?_, fun g l hg => ?_, fun g hg => ?_⟩
 ·rw [size_put (hown.tidy lawFun), hhas f (fk f) (keyFun f hf.1 hf.2.1 hf.2.2), hsz]
  unfold putF
  by_cases e : f ∈ ks
  ·simp [e]
  ·simp [e]
 ·by_cases e : g = f
  ·subst e
   have el : l = fk g := by have := keyFun g hf.1 hf.2.1 hf.2.2; rw [hg] at this; exact Option.some.inj this
   rw [el, has_put_same hm (fk_lit g)]
   unfold putF
   by_cases e : g ∈ ks <;> simp [e]
  ·have hne : l ≠ fk f := fun h => e (by
    have h2 := keyFun f hf.1 hf.2.1 hf.2.2; rw [← h] at h2; have := lawFun.inj hg h2; obtain ⟨g1, g2⟩ := g; obtain ⟨f1, f2⟩ := f
    simpa using this)
   rw [has_put_other hne, hhas g l hg]
   unfold putF
   by_cases e2 : f ∈ ks <;> simp [e2, e]
 ·by_cases e : g = f
  ·subst e; rw [atKey_put_same hm (fk_lit g)]; simp
  ·rw [atKey_put_other (fun h => e (fk_inj (hokP g hg) hf h))]
   simp only [if_neg e]; refine hat g ?_
   unfold putF at hg
   split at hg
   ·exact hg
   ·simpa [e] using hg
theorem atomFun_any (s : ByteArray) (w : World) : Calls Tryz.prog 117 #[.string s] w fun e w' => e = .returned (.agg #[.string s, .int .i64 0]) ∧ Below w.heap.size w w' := by
 go_enter Tryz.func117, Tryz.ntmps117
 go_wp2_with fail; exact bodyPost_ret (v := .agg #[.string s, .int .i64 0]) (by simp [results, Tryz.results117, go_sem]) rfl ⟨rfl, (Below.refl _ _).alloc (Nat.le_refl _) _⟩
theorem noAtom_var (w : World) (x : Value) : (Instr.typeAssert (.iface 82 x) 58 94 true).run Tryz.prog w = .ok (.tuple #[.string ⟨#[]⟩, .bool false]) w := by kernel_rfl
theorem noAtom_num (w : World) (x : Value) : (Instr.typeAssert (.iface 150 x) 58 94 true).run Tryz.prog w = .ok (.tuple #[.string ⟨#[]⟩, .bool false]) w := by kernel_rfl
noncomputable def noteL (ks : List Fun) (c : Cel) : List Fun := if c.1 = 2 ∨ c.1 = 3 then putF ks (strOfNums c.2.2, c.2.1) else ks
def NoteOut (w : World) (B b N : Nat) (ks : List Fun) (e : Ending) (w' : World) : Prop := e = .returned (.tuple #[]) ∧ (∃ N', N ≤ N' ∧ N' ≤ N + 1 ∧ FunMap w' b N' ks (fun _ => 0)) ∧ Below B w w'
theorem noteOther_any (t : TypeId) (x : Value) (B b N : Nat) (ks : List Fun) (w : World) (ht : t = 82 ∨ t = 150) (hm : FunMap w b N ks (fun _ => 0)) :
  Calls Tryz.prog 45 #[.map (some b), .iface t x] w (NoteOut w B b N ks) := by
 have HF : Hid (NoteOut w B b N ks (.returned (.tuple #[])) w) := ⟨rfl, ⟨N, Nat.le_refl _, by omega, hm⟩, Below.refl _ _⟩
 clear hm
 rcases ht with rfl | rfl
 ·have a1 := noAtom_var
  have a2 := noComp_var
  go_enter Tryz.func45, Tryz.ntmps45
  go_wp2_with fail
  go_end0
  exact HF.out
 ·have a1 := noAtom_num
  have a2 := noComp_num
  go_enter Tryz.func45, Tryz.ntmps45
  go_wp2_with fail
  go_end0
  exact HF.out
theorem FunMap.zero {w : World} {b N : Nat} {ks : List Fun} {f : Fun} (h : FunMap w b N ks (fun g => if g = f then 0 else 0)) : FunMap w b N ks (fun _ => 0) := by
 have e : (fun g : Fun => if g = f then (0 : Int) else 0) = fun _ => 0 := by funext g; split <;> rfl
 rwa [e] at h
theorem noteAtom_any (str : ByteArray) (B b N : Nat) (ks : List Fun) (w : World) (hs : str.size ≤ 1000000) (hB : B ≤ w.heap.size) (hBb : B ≤ b) (hN : N ≤ 1000000) (hm : FunMap w b N ks (fun _ => 0)) :
  Calls Tryz.prog 45 #[.map (some b), .iface 94 (.string str)] w (NoteOut w B b N (putF ks (str, 0))) := by
 have HM : Hid (FunMap w b N ks (fun _ => 0)) := hm; have HA := atomFun_any str w; have a1 := isAtom; have hk := keyFun (str, 0) hs (by simp) (by simp); clear hm
 go_enter Tryz.func45, Tryz.ntmps45
 go_wp2_with fail; refine HA.mono ?_; rintro e w1 ⟨rfl, hb1⟩; have hm1 := HM.out.below hb1; obtain ⟨D, hD⟩ := hm1; have hown := hD.1; have HB1 : Hid (Below B w w1) := hb1.mono hB
 have HPUT : Hid (∀ w', w'.ownsMap Tryz.prog 78 (plainElem Tryz.prog 3) b (N + 1) (D.put (fk (str, 0)) (.lit (.int .i64 0))) → FunMap w' b (N + 1) (putF ks (str, 0)) (fun _ => 0)) := fun w' h' => (FunMap.put ⟨D, hD⟩ (str, 0) ⟨hs, by simp, by simp⟩ 0 D hD h').zero
 have HW : Hid (B ≤ w1.heap.size) := Nat.le_trans hB hb1.size; clear hD hb1 HA a1; go_wp2_with (at_mapUpdate; refine wpList_mapUpdate_own _ rfl _ _ _ 105 rfl 78 3 lawFun Tryz.underlying105 _ b N D rfl hown (by unfold maxLen; omega) _ _ _ rfl rfl hk _ [] (plainElem_int Tryz.underlying3 (WalkArith.wf_i64 (by omega))) ?_; intro w2 hown2 hgrow2)
 go_end0
 exact ⟨rfl, ⟨N + 1, by omega, Nat.le_refl _, HPUT.out _ hown2⟩, HB1.out.trans ((Below.refl _ _).grown hgrow2 HW.out (fun k e => by cases e; exact hBb))⟩
theorem noteComp_any (cb g q : Nat) (str : ByteArray) (B b N : Nat) (ks : List Fun) (w : World) (h0 : w.cell? ⟨cb, 0, none⟩ = some (.string str)) (h1 : w.cell? ⟨cb, 1, none⟩ = some (.slice (some ⟨g, 0, none⟩) q q)) (hs : str.size ≤ 1000000) (hq : q ≤ 1000000) (hB : B ≤ w.heap.size) (hBb : B ≤ b) (hN : N ≤ 1000000) (hm : FunMap w b N ks (fun _ => 0)) :
  Calls Tryz.prog 45 #[.map (some b), .iface 139 (.pointer (some ⟨cb, 0, none⟩))] w (NoteOut w B b N (putF ks (str, q))) := by
 have HM : Hid (FunMap w b N ks (fun _ => 0)) := hm; have HA := functor_any cb g q str w h0 h1; have a1 := noAtom_comp; have a2 := isComp; have hk := keyFun (str, q) hs (by simp) (by simp; omega); clear hm h0 h1
 go_enter Tryz.func45, Tryz.ntmps45
 go_wp2_with fail; refine HA.mono ?_; rintro e w1 ⟨rfl, hb1⟩; have hm1 := HM.out.below hb1; obtain ⟨D, hD⟩ := hm1; have hown := hD.1; have HB1 : Hid (Below B w w1) := hb1.mono hB
 have HPUT : Hid (∀ w', w'.ownsMap Tryz.prog 78 (plainElem Tryz.prog 3) b (N + 1) (D.put (fk (str, q)) (.lit (.int .i64 0))) → FunMap w' b (N + 1) (putF ks (str, q)) (fun _ => 0)) := fun w' h' => (FunMap.put ⟨D, hD⟩ (str, q) ⟨hs, by simp, by simp; omega⟩ 0 D hD h').zero
 have HW : Hid (B ≤ w1.heap.size) := Nat.le_trans hB hb1.size; clear hD hb1 HA a1 a2; go_wp2_with (at_mapUpdate; refine wpList_mapUpdate_own _ rfl _ _ _ 105 rfl 78 3 lawFun Tryz.underlying105 _ b N D rfl hown (by unfold maxLen; omega) _ _ _ rfl rfl hk _ [] (plainElem_int Tryz.underlying3 (WalkArith.wf_i64 (by omega))) ?_; intro w2 hown2 hgrow2)
 go_end0
 exact ⟨rfl, ⟨N + 1, by omega, Nat.le_refl _, HPUT.out _ hown2⟩, HB1.out.trans ((Below.refl _ _).grown hgrow2 HW.out (fun k e => by cases e; exact hBb))⟩
def NState (w : World) (mp m : Nat) (ks : List Fun) : Prop := ∃ N, N ≤ m ∧ FunMap w mp N ks (fun _ => 0)
def NWalk (w : World) (B mp m : Nat) (ks : List Fun) (e : Ending) (w' : World) : Prop := e = .returned (.tuple #[]) ∧ NState w' mp m ks ∧ Below B w w'
noncomputable def notes (ks : List Fun) (cs : List Cel) : List Fun := cs.foldl noteL ks
theorem notes_append (ks : List Fun) (a b : List Cel) : notes ks (a ++ b) = notes (notes ks a) b := by simp [notes]
theorem notes_cons (ks : List Fun) (c : Cel) (b : List Cel) : notes ks (c :: b) = notes (noteL ks c) b := rfl
theorem str_size (xs : List Int) : (strOfNums xs).size = xs.length := by simp [strOfNums, ByteArray.size]
theorem noteVisit_any (c : Cel) (k : Fo) (v : Value) (Bt B mp m : Nat) (ks : List Fun) (w0 w : World) (hok : (Fo.node c k .nil).ok) (hw : Below w0.heap.size w0 w) (hB : B ≤ w.heap.size) (hBm : B ≤ mp) (hm : m ≤ 1000000) (hn : NodeIn w0 Bt c (fun kv => FoIn w0 Bt k kv) v) (hs : NState w mp m ks) :
  Calls Tryz.prog 45 #[.map (some mp), v] w (NWalk w B mp (m + 1) (noteL ks c)) := by
 obtain ⟨N, hN, hfm⟩ := hs
 have fin : ∀ {e : Ending} {w' : World} {ls : List Fun}, NoteOut w B mp N ls e w' → ls = noteL ks c → NWalk w B mp (m + 1) (noteL ks c) e w' := fun ⟨h1, ⟨N', _, h3, h4⟩, h5⟩ e => ⟨h1, ⟨N', by omega, by rw [← e]; exact h4⟩, h5⟩
 have hlen : c.2.2.length ≤ 100 := by have := hok.1; simp only [cellB, decide_eq_true_eq] at this; omega
 rcases hn with ⟨h0, rfl⟩ | ⟨h0, rfl⟩ | ⟨h0, rfl⟩ | ⟨h0, b, g, vs, rfl, _, _, c0, c1, _, _, hk⟩
 ·exact (noteOther_any _ _ B mp N ks w (.inl rfl) hfm).mono fun e w' h => fin h (by rw [noteL, if_neg (by rw [h0]; decide)])
 ·exact (noteOther_any _ _ B mp N ks w (.inr rfl) hfm).mono fun e w' h => fin h (by rw [noteL, if_neg (by rw [h0]; decide)])
 ·have hc1 : c.2.1 = 0 := by have := hok.1; rw [h0] at this; simp [cellB] at this; exact this.2
  exact (noteAtom_any _ B mp N ks w (by rw [str_size]; omega) hB hBm (by omega) hfm).mono fun e w' h => fin h (by rw [noteL, if_pos (.inl h0), hc1])
 ·have hc1 : c.2.1 = (vs.length : Int) := by rw [FoIn.count _ _ hk]; exact hok.2.2.1 h0
  have hq : vs.length ≤ 1000000 := by have := hok.1; rw [h0] at this; simp [cellB] at this; omega
  exact (noteComp_any b g vs.length _ B mp N ks w ((hw.cell (World.block_lt_of_cell? _ _ c0)).trans c0) ((hw.cell (World.block_lt_of_cell? _ _ c1)).trans c1) (by rw [str_size]; omega) hq hB hBm (by omega) hfm).mono fun e w' h => fin h (by rw [noteL, if_pos (.inr h0), hc1])
set_option maxHeartbeats 1000000 in
theorem noteWalk_any : ∀ (N : Nat) (c : Cel) (k : Fo) (v : Value) (Bt B mp m : Nat) (ks : List Fun) (w0 w : World), k.cells.length ≤ N → (Fo.node c k .nil).ok → FoIn w0 Bt (.node c k .nil) [v] → Below w0.heap.size w0 w → w0.heap.size ≤ B → B ≤ w.heap.size → B ≤ mp → NState w mp m ks → m + 1 + k.cells.length ≤ 100000 →
  Calls Tryz.prog 44 #[v, .func (.func 45) #[.map (some mp)] #[]] w (NWalk w B mp (m + (k.cells.length + 1)) (notes ks (c :: k.cells))) := by
 intro N
 induction N using Nat.strongRecOn with
 | _ N ih =>
   intro c k v Bt B mp m ks w0 w hN hok hfo hw hB0 hB hBm hs hlen
   obtain ⟨v', vr, e, hnode, _⟩ := hfo; obtain ⟨rfl, rfl⟩ := List.cons.inj e; have HV := noteVisit_any c k v Bt B mp m ks w0 w hok hw hB hBm (by omega) hnode hs; rw [notes_cons]; have HIH : Hid _ := ih; have HW : Hid (Below w0.heap.size w0 w) := hw
   have leaf : ∀ (t : TypeId) (x : Value), v = .iface t x → (t = 82 ∨ t = 150 ∨ t = 94) → c.1 ≠ 3 → Calls Tryz.prog 44 #[v, .func (.func 45) #[.map (some mp)] #[]] w (NWalk w B mp (m + (k.cells.length + 1)) (notes (noteL ks c) k.cells)) := fun t x hv ht h3 => by
    have hk : k = .nil := hok.2.2.2.1 h3; subst hk hv
    have HA := fun W => argsLeaf_any t x W ht
    clear hok hnode hs HIH ih e hw
    go_enter Tryz.func44, Tryz.ntmps44
    go_wp2_with fail; refine HV.mono ?_; rintro e w1 ⟨rfl, hst, hb⟩; go_wp2_with fail; refine (HA _).mono ?_; rintro e w2 ⟨rfl, rfl⟩; go_wp2_with fail; refine wp_loop_rounds 1 ?_; rw [rounds_succ]; go_wp2_with fail
    go_end0
    exact ⟨rfl, hst, hb⟩
   rcases hnode with ⟨h0, hv⟩ | ⟨h0, hv⟩ | ⟨h0, hv⟩ | ⟨h0, b, g, vs, hv, hcomp⟩
   ·exact leaf _ _ hv (.inl rfl) (by rw [h0]; decide)
   ·exact leaf _ _ hv (.inr (.inl rfl)) (by rw [h0]; decide)
   ·exact leaf _ _ hv (.inr (.inr rfl)) (by rw [h0]; decide)
   ·subst hv
    clear leaf; have HC : Hid (CompAt w0 Bt c.2.2 k b g vs) := hcomp; have hvl2 : vs.length = k.count := FoIn.count _ _ hcomp.2.2.2.2.2.2
    obtain ⟨q, eq⟩ : ∃ q, q = vs.length := ⟨_, rfl⟩
    have HE : Hid (q = vs.length ∧ vs.length = k.count) := ⟨eq, hvl2⟩
    have hq : q ≤ 100000 := by have := Fo.count_le k; omega
    have HK : Hid k.ok := hok.2.2.2.2.1
    have HBB : Hid (b < w0.heap.size ∧ w0.cell? ⟨b, 1, none⟩ = some (.slice (some ⟨g, 0, none⟩) q q)) := ⟨World.block_lt_of_cell? _ _ hcomp.2.2.2.1, by rw [eq]; exact hcomp.2.2.2.1⟩
    clear hcomp hok hs ih e hw eq hvl2
    go_enter Tryz.func44, Tryz.ntmps44
    go_wp2_with fail; refine HV.mono ?_; rintro e w1 ⟨rfl, hst, hb1⟩; have d1 : w1.cell? ⟨b, 1, none⟩ = some (.slice (some ⟨g, 0, none⟩) q q) := (((HW.out.trans (hb1.mono hB0)).cell (p := ⟨b, 1, none⟩) HBB.out.1)).trans HBB.out.2; have HST : Hid _ := hst; have HB1 : Hid (Below B w w1) := hb1; clear hst hb1 HV; go_wp2_with fail; refine (argsComp_any b g q _ d1).mono ?_; rintro e w2 ⟨rfl, hw2⟩; subst hw2; clear d1; go_wp2_with fail
    go_loopw [12] (fun i wr => ∃ (D R : Fo) (us vs2 : List Value) (j : Nat), j ≤ q ∧ i = .int .i64 j ∧ Hid (k = D.cat R ∧ vs = us ++ vs2 ∧ us.length = j) ∧ Hid (FoIn w0 Bt R vs2) ∧ Hid (NState wr mp (m + (D.cells.length + 1)) (notes (noteL ks c) D.cells)) ∧ Hid (Below B w wr)) (fun i _ => q - (intOf i).toNat)
    case atStart => exact ⟨.nil, k, [], vs, 0, Nat.zero_le _, rfl, ⟨rfl, rfl, rfl⟩, HC.out.2.2.2.2.2.2, HST, HB1⟩
    case round =>
     obtain ⟨D, R, us, vs2, j, hj, rfl, HF, HR, HS, HB⟩ := hrel
     by_cases hlt : j < q
     ·obtain ⟨c', k', r', rfl⟩ : ∃ c' k' r', R = .node c' k' r' := by
       cases R with
       | nil =>
         have h1 := HF.out; have h2 : vs2 = [] := HR.out; have h3 := HE.out.1; rw [h1.2.1, h2, List.append_nil] at h3
         omega
       | node c' k' r' => exact ⟨c', k', r', rfl⟩
      obtain ⟨v, vr, rfl, hnode, hrest⟩ := HR.out; have hok2 := (Fo.ok_cat D (.node c' k' r')).1 (HF.out.1 ▸ HK.out)
      have hl2 : D.cells.length + (k'.cells.length + r'.cells.length + 1) = k.cells.length := by
       rw [HF.out.1, Fo.cells_cat]; simp [Fo.cells]
      have hat : w0.cell? ⟨g, j, none⟩ = some v := by
       rw [HC.out.2.2.2.2.2.1 j (by rw [← HE.out.1]; exact hlt), HF.out.2.1]
       simp [List.getD, HF.out.2.2]
      have hwr : Below w0.heap.size w0 wr := HW.out.trans (HB.out.mono hB0); have c5 : wr.cell? ⟨g, j, none⟩ = some v := (hwr.cell (World.block_lt_of_cell? _ _ hat)).trans hat; have hB4 : B ≤ wr.heap.size := Nat.le_trans hB HB.out.size; have HWK := HIH.out k'.cells.length (by omega) c' k' v Bt B mp (m + (D.cells.length + 1)) (notes (noteL ks c) D.cells) w0 wr (Nat.le_refl _) ⟨hok2.2.1, hok2.2.2.1, hok2.2.2.2.1, hok2.2.2.2.2.1, hok2.2.2.2.2.2.1, trivial⟩ ⟨v, [], rfl, hnode, rfl⟩ hwr hB0 hB4 hBm HS.out (by omega); obtain ⟨vt, vx, rfl⟩ := hnode.iface; have HRR : Hid (FoIn w0 Bt r' vr) := hrest; clear hok2 hl2 hat hwr hnode hrest HIH; go_wp2_with fail; refine HWK.mono ?_; rintro e w3 ⟨rfl, hst3, hb3⟩
      have HN : Hid (k = (D.cat (.node c' k' .nil)).cat r' ∧ vs = (us ++ [.iface vt vx]) ++ vr ∧ (us ++ [Value.iface vt vx]).length = j + 1) := ⟨by rw [Fo.cat_assoc]; exact HF.out.1, by rw [HF.out.2.1]; simp, by simp [HF.out.2.2]⟩
      have HST3 : Hid (NState w3 mp (m + ((D.cat (.node c' k' .nil)).cells.length + 1)) (notes (noteL ks c) (D.cat (.node c' k' .nil)).cells)) := by
       have e : m + (D.cells.length + 1) + (k'.cells.length + 1) = m + ((D.cat (.node c' k' .nil)).cells.length + 1) := by rw [Fo.cells_cat]; simp [Fo.cells]; omega
       rw [← e]
       show NState _ _ _ _
       rw [Fo.cells_cat, notes_append]; simpa [Fo.cells] using hst3
      have HB3 : Hid (Below B w w3) := HB.out.trans hb3; clear hst3 hb3 HWK; go_wp2_with fail; go_roundw
      case rel => exact ⟨D.cat (.node c' k' .nil), r', us ++ [.iface vt vx], vr, j + 1, by omega, by go_num, HN, HRR, HST3, HB3⟩
      case measure => simp [intOf]; omega
     ·obtain rfl : j = q := by omega
      obtain rfl : R = .nil := by
       have h1 := FoIn.count _ _ HR.out; have h2 := HE.out; rw [HF.out.2.1, List.length_append] at h2; have h3 := HF.out.2.2
       cases R with
       | nil => rfl
       | node a b d => simp [Fo.count] at h1; omega
      have HF' : Hid (D = k) := by have := HF.out.1; rw [Fo.cat_nil] at this; exact this.symm
      go_wp2_with fail
      go_end0
      refine ⟨rfl, ?_, HB.out⟩; have h1 := HS.out
      rwa [HF'.out] at h1
theorem zeroInt (w : World) : (zeroValue 3).run Tryz.prog w = .ok (.int .i64 0) w := by kernel_rfl
theorem FunMap.look {W : World} {b N : Nat} {ks : List Fun} {rk : Fun → Int} (h : FunMap W b N ks rk) (f : Fun) (hf : f ∈ ks) : (Instr.lookup 105 (.map (some b)) (.agg #[.string f.1, .int .i64 f.2]) false).run Tryz.prog W = .ok (.int .i64 (rk f)) W := by
 obtain ⟨D, hown, hok, hsz, hhas, hat⟩ := h; have ho := hok f hf; obtain ⟨c, hrun, hc, _⟩ := hown.lookup_int lawFun Tryz.underlying105 Tryz.underlying3 (zeroInt W) (keyFun f ho.1 ho.2.1 ho.2.2); rw [hat f hf] at hc
 cases hc
 exact hrun
def rankOf (rk : Fun → Int) (c : Cel) : Int := if c.1 = 2 ∨ c.1 = 3 then rk (strOfNums c.2.2, c.2.1) else c.2.1
def PlaceOut (w : World) (k v : Int) (e : Ending) (w' : World) : Prop := e = .returned (.tuple #[.int .i64 k, .int .i64 v]) ∧ Below w.heap.size w w'
theorem noNum_atom (w : World) (x : Value) : (Instr.typeAssert (.iface 94 x) 58 150 true).run Tryz.prog w = .ok (.tuple #[.int .i64 0, .bool false]) w := by kernel_rfl
theorem noNum_comp (w : World) (x : Value) : (Instr.typeAssert (.iface 139 x) 58 150 true).run Tryz.prog w = .ok (.tuple #[.int .i64 0, .bool false]) w := by kernel_rfl
theorem isNum (w : World) (x : Value) : (Instr.typeAssert (.iface 150 x) 58 150 true).run Tryz.prog w = .ok (.tuple #[x, .bool true]) w := by kernel_rfl
theorem placeVar_any (x : Int) (b : Nat) (w : World) : Calls Tryz.prog 120 #[.map (some b), .iface 82 (.int .i64 x)] w (PlaceOut w 0 x) := by
 have a1 := isVar
 have HF : Hid (PlaceOut w 0 x (.returned (.tuple #[.int .i64 0, .int .i64 x])) w) := ⟨rfl, Below.refl _ _⟩
 go_enter Tryz.func120, Tryz.ntmps120
 go_wp2_with fail
 go_ret2
 exact HF.out
theorem placeNum_any (x : Int) (b : Nat) (w : World) : Calls Tryz.prog 120 #[.map (some b), .iface 150 (.int .i64 x)] w (PlaceOut w 1 x) := by
 have a1 := noVar_num; have a2 := isNum
 have HF : Hid (PlaceOut w 1 x (.returned (.tuple #[.int .i64 1, .int .i64 x])) w) := ⟨rfl, Below.refl _ _⟩
 go_enter Tryz.func120, Tryz.ntmps120
 go_wp2_with fail
 go_ret2
 exact HF.out
theorem placeAtom_any (str : ByteArray) (b N : Nat) (ks : List Fun) (rk : Fun → Int) (w : World) (hm : FunMap w b N ks rk) (hf : (str, (0 : Int)) ∈ ks) : Calls Tryz.prog 120 #[.map (some b), .iface 94 (.string str)] w (PlaceOut w 2 (rk (str, 0))) := by
 have a1 := noVar_atom; have a2 := noNum_atom; have a3 := isAtom
 have HA := fun W => atomFun_any str W
 have HL : Hid (∀ W, Below w.heap.size w W → (Instr.lookup 105 (.map (some b)) (.agg #[.string str, .int .i64 0]) false).run Tryz.prog W = .ok (.int .i64 (rk (str, 0))) W) := fun W hW => (hm.below hW).look (str, 0) hf
 generalize rk (str, 0) = r at *
 clear hm hf
 go_enter Tryz.func120, Tryz.ntmps120
 go_wp2_with fail
 go_region_held3 (fun _ => True) (trivial)
  ((go_at_call 117; refine (HA _).mono ?_; rintro e w1 ⟨rfl, hb1⟩; have hl := HL.out w1 (by first | exact hb1 | exact (Below.refl _ w).drew.trans hb1); have hl2 := HL.out w1.drew (by first | exact hb1.drew | exact ((Below.refl _ w).drew.trans hb1).drew)))
 all_goals go_wp2_with fail
 go_ret2
 exact ⟨rfl, (Below.refl _ w).drew.trans hb1⟩
theorem placeComp_any (cb g q : Nat) (str : ByteArray) (b N : Nat) (ks : List Fun) (rk : Fun → Int) (w : World) (h0 : w.cell? ⟨cb, 0, none⟩ = some (.string str)) (h1 : w.cell? ⟨cb, 1, none⟩ = some (.slice (some ⟨g, 0, none⟩) q q)) (hm : FunMap w b N ks rk) (hf : (str, (q : Int)) ∈ ks) :
  Calls Tryz.prog 120 #[.map (some b), .iface 139 (.pointer (some ⟨cb, 0, none⟩))] w (PlaceOut w 3 (rk (str, q))) := by
 have a1 := noVar_comp; have a2 := noNum_comp; have a3 := noAtom_comp; have a4 := isComp
 have HA : ∀ W, Below w.heap.size w W → Calls Tryz.prog 105 #[.pointer (some ⟨cb, 0, none⟩)] W fun e w' => e = .returned (.agg #[.string str, .int .i64 q]) ∧ Below W.heap.size W w' := fun W hW => functor_any cb g q str W ((hW.cell (World.block_lt_of_cell? _ _ h0)).trans h0) ((hW.cell (World.block_lt_of_cell? _ _ h1)).trans h1)
 have HL : Hid (∀ W, Below w.heap.size w W → (Instr.lookup 105 (.map (some b)) (.agg #[.string str, .int .i64 q]) false).run Tryz.prog W = .ok (.int .i64 (rk (str, q))) W) := fun W hW => (hm.below hW).look (str, q) hf
 generalize rk (str, q) = r at *
 clear hm hf h0 h1
 go_enter Tryz.func120, Tryz.ntmps120
 go_wp2_with fail
 go_region_held3 (fun _ => True) (trivial)
  ((go_at_call 105; refine (HA _ (by first | exact Below.refl _ _ | exact (Below.refl _ w).drew)).mono ?_; rintro e w1 ⟨rfl, hb1⟩; have hl := HL.out w1 (by first | exact hb1 | exact (Below.refl _ w).drew.trans hb1); have hl2 := HL.out w1.drew (by first | exact hb1.drew | exact ((Below.refl _ w).drew.trans hb1).drew)))
 all_goals go_wp2_with fail
 go_ret2
 exact ⟨rfl, (Below.refl _ w).drew.trans hb1⟩
theorem place_any (c : Cel) (k : Fo) (v : Value) (Bt b N : Nat) (ks : List Fun) (rk : Fun → Int) (w0 w : World) (hok : (Fo.node c k .nil).ok) (hw : Below w0.heap.size w0 w) (hm : FunMap w b N ks rk) (hf : c.1 = 2 ∨ c.1 = 3 → (strOfNums c.2.2, c.2.1) ∈ ks) (hn : NodeIn w0 Bt c (fun kv => FoIn w0 Bt k kv) v) :
  Calls Tryz.prog 120 #[.map (some b), v] w (PlaceOut w c.1 (rankOf rk c)) := by
 rcases hn with ⟨h0, rfl⟩ | ⟨h0, rfl⟩ | ⟨h0, rfl⟩ | ⟨h0, cb, g, vs, rfl, _, _, c0, c1, _, _, hk⟩
 ·rw [rankOf, if_neg (by rw [h0]; decide), h0]
  exact placeVar_any _ b w
 ·rw [rankOf, if_neg (by rw [h0]; decide), h0]
  exact placeNum_any _ b w
 ·have hc1 : c.2.1 = 0 := by have := hok.1; rw [h0] at this; simp [cellB] at this; exact this.2
  have hf' := hf (.inl h0); rw [hc1] at hf'; rw [rankOf, if_pos (.inl h0), h0, hc1]; exact placeAtom_any _ b N ks rk w hm hf'
 ·have hc1 : c.2.1 = (vs.length : Int) := by rw [FoIn.count _ _ hk]; exact hok.2.2.1 h0
  have hf' := hf (.inr h0); rw [hc1] at hf'; rw [rankOf, if_pos (.inr h0), h0, hc1]; exact placeComp_any cb g vs.length _ b N ks rk w ((hw.cell (World.block_lt_of_cell? _ _ c0)).trans c0) ((hw.cell (World.block_lt_of_cell? _ _ c1)).trans c1) hm hf'
def cmpN (rk : Fun → Int) (c c' : Cel) : Int := orI (cmpI c.1 c'.1) (cmpI (rankOf rk c) (rankOf rk c'))
def cmpFo (rk : Fun → Int) : Fo → Fo → Int
 | .nil, .nil => 0
 | .nil, .node _ _ _ => -1
 | .node _ _ _, .nil => 1
 | .node c k r, .node c' k' r' => orI (orI (cmpN rk c c') (cmpFo rk k k')) (cmpFo rk r r')
def NamesIn (ks : List Fun) (cs : List Cel) : Prop := ∀ x ∈ cs, (x.1 = 2 ∨ x.1 = 3) → (strOfNums x.2.2, x.2.1) ∈ ks
def CmpOut (w : World) (r : Int) (e : Ending) (w' : World) : Prop := e = .returned (.int .i64 r) ∧ Below w.heap.size w w'
def CmpOk (w0 : World) (Bt b N : Nat) (ks : List Fun) (rk : Fun → Int) (n : Nat) : Prop := ∀ (c : Cel) (k : Fo) (v : Value) (c' : Cel) (k' : Fo) (v' : Value) (w : World), k.cells.length + 1 ≤ n → (Fo.node c k .nil).ok → (Fo.node c' k' .nil).ok → FoIn w0 Bt (.node c k .nil) [v] → FoIn w0 Bt (.node c' k' .nil) [v'] →
 NamesIn ks (c :: k.cells) → NamesIn ks (c' :: k'.cells) → Below w0.heap.size w0 w → FunMap w b N ks rk → Calls Tryz.prog 47 #[.map (some b), v, v'] w (CmpOut w (orI (cmpN rk c c') (cmpFo rk k k')))
def ArgIn (w : World) (p : Option Addr) (vs : List Value) : Prop := ∀ j, j < vs.length → ∃ g, p = some ⟨g, 0, none⟩ ∧ w.cell? ⟨g, j, none⟩ = some (vs.getD j .nilIface)
theorem NamesIn.sub {ks : List Fun} {a b : List Cel} (h : NamesIn ks b) (hs : ∀ x ∈ a, x ∈ b) : NamesIn ks a := fun x hx => h x (hs x hx)
set_option maxHeartbeats 1000000 in
theorem compareFunc_any (w0 : World) (Bt b N : Nat) (ks : List Fun) (rk : Fun → Int) (n : Nat) (hcmp : CmpOk w0 Bt b N ks rk n) (K K' : Fo) (vs vs' : List Value) (p p' : Option Addr) (q q' c1 c2 : Nat) (w : World) (hq : q = vs.length) (hq' : q' = vs'.length) (hqb : q ≤ 100000) (hqb' : q' ≤ 100000)
  (hK : K.cells.length ≤ n) (hok : K.ok) (hok' : K'.ok) (hfo : FoIn w0 Bt K vs) (hfo' : FoIn w0 Bt K' vs') (ha : ArgIn w0 p vs) (ha' : ArgIn w0 p' vs') (hns : NamesIn ks K.cells) (hns' : NamesIn ks K'.cells) (hw : Below w0.heap.size w0 w) (hm : FunMap w b N ks rk) :
  Calls Tryz.prog 123 #[.slice p q c1, .slice p' q' c2, .func (.func 47) #[.map (some b)] #[]] w (CmpOut w (cmpFo rk K K')) := by
 have HC : Hid (CmpOk w0 Bt b N ks rk n) := hcmp
 have HQ : Hid (q = vs.length ∧ q' = vs'.length) := ⟨hq, hq'⟩
 have HOK : Hid (K.ok ∧ K'.ok ∧ K.cells.length ≤ n) := ⟨hok, hok', hK⟩
 have HFO : Hid (FoIn w0 Bt K vs ∧ FoIn w0 Bt K' vs') := ⟨hfo, hfo'⟩
 have HA : Hid (ArgIn w0 p vs ∧ ArgIn w0 p' vs') := ⟨ha, ha'⟩
 have HNS : Hid (NamesIn ks K.cells ∧ NamesIn ks K'.cells) := ⟨hns, hns'⟩
 have HW : Hid (Below w0.heap.size w0 w) := hw; have HM : Hid (FunMap w b N ks rk) := hm; clear hcmp hq hq' hok hok' hK hfo hfo' ha ha' hns hns' hw hm
 go_enter Tryz.func123, Tryz.ntmps123
 go_wp2_with fail
 go_loopw [13] (fun i wr => ∃ (D R D' R' : Fo) (us vr us' vr' : List Value) (j : Nat), j ≤ q ∧ i = .int .i64 j ∧ Hid (K = D.cat R ∧ vs = us ++ vr ∧ us.length = j) ∧ Hid (K' = D'.cat R' ∧ vs' = us' ++ vr' ∧ us'.length = j) ∧ Hid (FoIn w0 Bt R vr ∧ FoIn w0 Bt R' vr') ∧ Hid (cmpFo rk K K' = cmpFo rk R R') ∧ Hid (Below w.heap.size w wr)) (fun i _ => q - (intOf i).toNat)
 case atStart => exact ⟨.nil, K, .nil, K', [], vs, [], vs', 0, Nat.zero_le _, rfl, ⟨rfl, rfl, rfl⟩, ⟨rfl, rfl, rfl⟩, HFO, rfl, Below.refl _ _⟩
 case round =>
  obtain ⟨D, R, D', R', us, vr, us', vr', j, hj, rfl, HF, HF', HR, HE, HB⟩ := hrel
  by_cases hlt : j < q
  ·obtain ⟨c, k, r, rfl⟩ : ∃ c k r, R = .node c k r := by
    cases R with
    | nil =>
      have h1 := HF.out; have h2 : vr = [] := HR.out.1; have h3 := HQ.out.1; rw [h1.2.1, h2, List.append_nil] at h3
      omega
    | node c k r => exact ⟨c, k, r, rfl⟩
   obtain ⟨v, vt, rfl, hnode, hrest⟩ := HR.out.1; obtain ⟨g, rfl, hg⟩ := HA.out.1 j (by rw [← HQ.out.1]; exact hlt)
   have hat : w0.cell? ⟨g, j, none⟩ = some v := by rw [hg, HF.out.2.1]; simp [List.getD, HF.out.2.2]
   have hwr : Below w0.heap.size w0 wr := Below.on HW.out HB.out; have d1 : wr.cell? ⟨g, j, none⟩ = some v := (hwr.cell (World.block_lt_of_cell? _ _ hat)).trans hat
   by_cases hlt' : j < q'
   ·obtain ⟨c', k', r', rfl⟩ : ∃ c k r, R' = .node c k r := by
     cases R' with
     | nil =>
       have h1 := HF'.out; have h2 : vr' = [] := HR.out.2; have h3 := HQ.out.2; rw [h1.2.1, h2, List.append_nil] at h3
       omega
     | node c k r => exact ⟨c, k, r, rfl⟩
    obtain ⟨v', vt', rfl, hnode', hrest'⟩ := HR.out.2; obtain ⟨g', rfl, hg'⟩ := HA.out.2 j (by rw [← HQ.out.2]; exact hlt')
    have hat' : w0.cell? ⟨g', j, none⟩ = some v' := by rw [hg', HF'.out.2.1]; simp [List.getD, HF'.out.2.2]
    have d1' : wr.cell? ⟨g', j, none⟩ = some v' := (hwr.cell (World.block_lt_of_cell? _ _ hat')).trans hat'; have ho := (Fo.ok_cat D (.node c k r)).1 (HF.out.1 ▸ HOK.out.1); have ho' := (Fo.ok_cat D' (.node c' k' r')).1 (HF'.out.1 ▸ HOK.out.2.1)
    have hl : k.cells.length + 1 ≤ n := by
     have := HOK.out.2.2; rw [HF.out.1, Fo.cells_cat] at this; simp [Fo.cells] at this; omega
    have hsub : NamesIn ks (c :: k.cells) := HNS.out.1.sub fun x hx => by
     rw [HF.out.1, Fo.cells_cat]; simp only [Fo.cells, List.mem_append, List.mem_cons] at hx ⊢; rcases hx with h | h <;> simp [h]
    have hsub' : NamesIn ks (c' :: k'.cells) := HNS.out.2.sub fun x hx => by
     rw [HF'.out.1, Fo.cells_cat]; simp only [Fo.cells, List.mem_append, List.mem_cons] at hx ⊢; rcases hx with h | h <;> simp [h]
    have HCALL := HC.out c k v c' k' v' wr hl ⟨ho.2.1, ho.2.2.1, ho.2.2.2.1, ho.2.2.2.2.1, ho.2.2.2.2.2.1, trivial⟩ ⟨ho'.2.1, ho'.2.2.1, ho'.2.2.2.1, ho'.2.2.2.2.1, ho'.2.2.2.2.2.1, trivial⟩ ⟨v, [], rfl, hnode, rfl⟩ ⟨v', [], rfl, hnode', rfl⟩ hsub hsub' hwr (HM.out.below HB.out); obtain ⟨t1, x1, rfl⟩ := hnode.iface; obtain ⟨t2, x2, rfl⟩ := hnode'.iface
    obtain ⟨cc, ecc⟩ : ∃ cc, cc = orI (cmpN rk c c') (cmpFo rk k k') := ⟨_, rfl⟩
    have HEE : Hid (cmpFo rk K K' = orI cc (cmpFo rk r r')) := by show _ = _; rw [HE.out, cmpFo, ecc]
    have HRR : Hid (FoIn w0 Bt r vt ∧ FoIn w0 Bt r' vt') := ⟨hrest, hrest'⟩
    rw [← ecc] at HCALL; clear ho ho' hl hsub hsub' hat hat' hg hg' hwr hnode hnode' hrest hrest' ecc; go_wp2_with fail; refine HCALL.mono ?_; rintro e w2 ⟨rfl, hb2⟩; have HB2 : Hid (Below w.heap.size w w2) := Below.on HB.out hb2; clear hb2 HCALL
    by_cases hz : cc = 0
    ·subst hz
     have HN : Hid (K = (D.cat (.node c k .nil)).cat r ∧ vs = (us ++ [.iface t1 x1]) ++ vt ∧ (us ++ [Value.iface t1 x1]).length = j + 1) := ⟨by rw [Fo.cat_assoc]; exact HF.out.1, by rw [HF.out.2.1]; simp, by simp [HF.out.2.2]⟩
     have HN' : Hid (K' = (D'.cat (.node c' k' .nil)).cat r' ∧ vs' = (us' ++ [.iface t2 x2]) ++ vt' ∧ (us' ++ [Value.iface t2 x2]).length = j + 1) := ⟨by rw [Fo.cat_assoc]; exact HF'.out.1, by rw [HF'.out.2.1]; simp, by simp [HF'.out.2.2]⟩
     go_wp2_with fail; go_roundw
     case rel => exact ⟨_, r, _, r', _, vt, _, vt', j + 1, by omega, by go_num, HN, HN', HRR, by show _ = _; rw [HEE.out, orI, if_neg (by simp)], HB2⟩
     case measure => simp [intOf]; omega
    ·have HFIN : Hid (CmpOut w (cmpFo rk K K') (.returned (.int .i64 cc)) w2) := ⟨ret_int (by rw [HEE.out, orI, if_pos hz]), HB2.out⟩
     go_wp2_with fail; go_ret; exact HFIN.out
   ·obtain rfl : R' = .nil := by
     have h1 := FoIn.count _ _ HR.out.2; have h2 := HQ.out.2; rw [HF'.out.2.1, List.length_append] at h2; have h3 := HF'.out.2.2
     cases R' with
     | nil => rfl
     | node a b d => simp [Fo.count] at h1; omega
    have hge : (q' : Int) ≤ (j : Int) := by omega
    obtain ⟨t1, x1, rfl⟩ := hnode.iface
    have HFIN : Hid (CmpOut w (cmpFo rk K K') (.returned (.int .i64 1)) wr) := ⟨ret_int (by rw [HE.out, cmpFo]), HB.out⟩
    clear hat hg hwr hnode hrest; go_wp2_with fail; go_ret; exact HFIN.out
  ·obtain rfl : j = q := by omega
   obtain rfl : R = .nil := by
    have h1 := FoIn.count _ _ HR.out.1; have h2 := HQ.out.1; rw [HF.out.2.1, List.length_append] at h2; have h3 := HF.out.2.2
    cases R with
    | nil => rfl
    | node a b d => simp [Fo.count] at h1; omega
   have hcnt : q' = j + R'.count := by
    have h1 := FoIn.count _ _ HR.out.2; have h2 := HQ.out.2; rw [HF'.out.2.1, List.length_append, HF'.out.2.2, h1] at h2; exact h2
   cases R' with
   | nil =>
     have hqq : q' = j := by simpa [Fo.count] using hcnt
     clear hcnt; subst hqq
     have HFIN : Hid (CmpOut w (cmpFo rk K K') (.returned (.int .i64 0)) wr) := ⟨ret_int (by rw [HE.out, cmpFo]), HB.out⟩
     go_wp2_with fail; go_ret; exact HFIN.out
   | node a b' d =>
     have hlt2 : (j : Int) < (q' : Int) := by simp [Fo.count] at hcnt; omega
     have HFIN : Hid (CmpOut w (cmpFo rk K K') (.returned (.int .i64 (-1))) wr) := ⟨ret_int (by rw [HE.out, cmpFo]), HB.out⟩
     clear hcnt; go_wp2_with fail; go_ret; exact HFIN.out
theorem count_ok {c : Cel} {k : Fo} (h : (Fo.node c k .nil).ok) : k.count ≤ 100000 := by
 by_cases h3 : c.1 = 3
 ·have h1 := h.2.2.1 h3
  have h2 := h.1; rw [h3] at h2
  simp [cellB] at h2
  omega
 ·rw [h.2.2.2.1 h3]; simp [Fo.count]
theorem args_any (c : Cel) (k : Fo) (v : Value) (Bt : Nat) (w0 w : World) (hok : (Fo.node c k .nil).ok) (hn : NodeIn w0 Bt c (fun kv => FoIn w0 Bt k kv) v) (hw : Below w0.heap.size w0 w) :
  ∃ (p : Option Addr) (vs : List Value), FoIn w0 Bt k vs ∧ ArgIn w0 p vs ∧ ∀ W, Below w.heap.size w W → Calls Tryz.prog 116 #[v] W fun e w' => e = .returned (.slice p vs.length vs.length) ∧ w' = W := by
 have leaf : ∀ (t : TypeId) (x : Value), v = .iface t x → (t = 82 ∨ t = 150 ∨ t = 94) → c.1 ≠ 3 → ∃ (p : Option Addr) (vs : List Value), FoIn w0 Bt k vs ∧ ArgIn w0 p vs ∧ ∀ W, Below w.heap.size w W → Calls Tryz.prog 116 #[v] W fun e w' => e = .returned (.slice p vs.length vs.length) ∧ w' = W := fun t x hv ht h3 => by
  have hk : k = .nil := hok.2.2.2.1 h3; subst hk hv; exact ⟨none, [], rfl, fun j h => by simp at h, fun W _ => argsLeaf_any t x W ht⟩
 rcases hn with ⟨h0, hv⟩ | ⟨h0, hv⟩ | ⟨h0, hv⟩ | ⟨h0, b, g, vs, hv, _, _, c0, c1, _, cg, hk⟩
 ·exact leaf _ _ hv (.inl rfl) (by rw [h0]; decide)
 ·exact leaf _ _ hv (.inr (.inl rfl)) (by rw [h0]; decide)
 ·exact leaf _ _ hv (.inr (.inr rfl)) (by rw [h0]; decide)
 ·subst hv
  exact ⟨some ⟨g, 0, none⟩, vs, hk, fun j hj => ⟨g, rfl, cg j hj⟩, fun W hW => argsComp_any b g vs.length W (((Below.on hw hW).cell (World.block_lt_of_cell? _ _ c1)).trans c1)⟩
set_option maxHeartbeats 1000000 in
theorem compare_step (w0 : World) (Bt b N : Nat) (ks : List Fun) (rk : Fun → Int) (n : Nat) (hcmp : CmpOk w0 Bt b N ks rk n) (hn : n ≤ 100000) : CmpOk w0 Bt b N ks rk (n + 1) := by
 intro c k v c' k' v' w hl hok hok' hfo hfo' hns hns' hw hm
 obtain ⟨_, _, e, hnode, _⟩ := hfo; obtain ⟨rfl, rfl⟩ := List.cons.inj e; obtain ⟨_, _, e', hnode', _⟩ := hfo'; obtain ⟨rfl, rfl⟩ := List.cons.inj e'; clear e e'; have HP1 := place_any c k v Bt b N ks rk w0 w hok hw hm (hns c (by simp)) hnode
 have HP2 : Hid (∀ W, Below w.heap.size w W → Calls Tryz.prog 120 #[.map (some b), v'] W (PlaceOut W c'.1 (rankOf rk c'))) := fun W hW => place_any c' k' v' Bt b N ks rk w0 W hok' (Below.on hw hW) (hm.below hW) (hns' c' (by simp)) hnode'
 obtain ⟨p1, vs, hfk, hak, HA1⟩ := args_any c k v Bt w0 w hok hnode hw; obtain ⟨p2, vs', hfk', hak', HA2⟩ := args_any c' k' v' Bt w0 w hok' hnode' hw; have hc1 := count_ok hok; have hc2 := count_ok hok'
 have HCF : Hid (∀ W, Below w.heap.size w W → Calls Tryz.prog 123 #[.slice p1 vs.length vs.length, .slice p2 vs'.length vs'.length, .func (.func 47) #[.map (some b)] #[]] W (CmpOut W (cmpFo rk k k'))) := fun W hW =>
  compareFunc_any w0 Bt b N ks rk n hcmp k k' vs vs' p1 p2 vs.length vs'.length vs.length vs'.length W rfl rfl (by rw [FoIn.count _ _ hfk]; exact hc1) (by rw [FoIn.count _ _ hfk']; exact hc2) (by omega) hok.2.2.2.2.1 hok'.2.2.2.2.1 hfk hfk' hak hak' (hns.sub fun x hx => by simp [hx]) (hns'.sub fun x hx => by simp [hx]) (Below.on hw hW) (hm.below hW)
 have HI1 := fun W => compareI_any c.1 c'.1 W
 have HI2 := fun W => compareI_any (rankOf rk c) (rankOf rk c') W
 have hO : ∀ (b : Nat) (W : World), W.cell? ⟨b, 0, none⟩ = some (.int .i64 (cmpI c.1 c'.1)) → W.cell? ⟨b, 1, none⟩ = some (.int .i64 (cmpI (rankOf rk c) (rankOf rk c'))) → Calls Tryz.prog 121 #[.slice (some ⟨b, 0, none⟩) 2 2] W fun e w' => e = .returned (.int .i64 (cmpN rk c c')) ∧ w' = W := fun b W h0 h1 => or_any b _ _ W h0 h1
 have HO : Hid _ := hO; have HA1' : Hid _ := HA1; have HA2' : Hid _ := HA2; have HI1' : Hid _ := HI1; have HI2' : Hid _ := HI2
 have HR : Hid (∀ cn, cn = cmpN rk c c' → (cn ≠ 0 → cn = orI (cmpN rk c c') (cmpFo rk k k')) ∧ (cn = 0 → cmpFo rk k k' = orI (cmpN rk c c') (cmpFo rk k k'))) := fun cn h => ⟨fun h1 => by rw [← h, orI, if_pos h1], fun h1 => by rw [← h, orI, if_neg (by simp [h1])]⟩
 obtain ⟨t1, x1, rfl⟩ := hnode.iface; obtain ⟨t2, x2, rfl⟩ := hnode'.iface
 generalize hcn : cmpN rk c c' = cn at *
 generalize hrr : orI cn (cmpFo rk k k') = rr at *
 clear hO HA1 HA2 HI1 HI2 hnode hnode' hfk hfk' hak hak' hns hns' hok hok' hm hcmp hl hc1 hc2
 generalize cmpI c.1 c'.1 = ci at *
 generalize cmpI (rankOf rk c) (rankOf rk c') = cj at *
 generalize rankOf rk c = r1 at *
 generalize rankOf rk c' = r2 at *
 generalize c.1 = k1 at *
 generalize c'.1 = k2 at *
 generalize cmpFo rk k k' = cf at *
 generalize vs.length = q1 at *
 generalize vs'.length = q2 at *
 go_enter Tryz.func47, Tryz.ntmps47
 go_wp2_with fail; clear hcn hrr; refine HP1.mono ?_; rintro e w1 ⟨rfl, hb1⟩; have HB1 : Hid (Below w.heap.size w w1) := hb1; clear hb1 HP1; go_wp2_with fail; refine (HP2.out w1 HB1.out).mono ?_; rintro e w2 ⟨rfl, hb2⟩; have HB2 : Hid (Below w.heap.size w w2) := Below.on HB1.out hb2; clear hb2; go_wp2_with fail; refine (HI1'.out w2).mono ?_; rintro e w2 ⟨rfl, rfl⟩; go_wp2_with fail; refine (HI2'.out w2).mono ?_; rintro e w2 ⟨rfl, rfl⟩; go_wp2_with fail; refine (HO.out _ _ (by exact (pair_new w2 _ _ _).1) (by exact (pair_new w2 _ _ _).2)).mono ?_; rintro e w3 ⟨rfl, rfl⟩; have HB3 : Hid (Below w.heap.size w (w2.alloc (.cells #[.int .i64 ci, .int .i64 cj] 3))) := HB2.out.alloc HB2.out.size _
 generalize w2.alloc (.cells #[.int .i64 ci, .int .i64 cj] 3) = w3 at *
 by_cases hz : cn = 0
 ·have HRR : Hid (cf = rr) := (HR.out cn rfl).2 hz
  subst hz; go_wp2_with fail; refine (HA1'.out w3 HB3.out).mono ?_; rintro e w3 ⟨rfl, rfl⟩; go_wp2_with fail; refine (HA2'.out w3 HB3.out).mono ?_; rintro e w3 ⟨rfl, rfl⟩; go_wp2_with fail; refine (HCF.out w3 HB3.out).mono ?_; rintro e w4 ⟨rfl, hb4⟩
  have HFIN : Hid (CmpOut w rr (.returned (.int .i64 cf)) w4) := ⟨ret_int HRR.out, Below.on HB3.out hb4⟩
  clear hb4; go_wp2_with fail; go_ret; exact HFIN.out
 ·have HFIN : Hid (CmpOut w rr (.returned (.int .i64 cn)) w3) := ⟨ret_int ((HR.out cn rfl).1 hz), HB3.out⟩
  go_wp2_with fail; go_ret; exact HFIN.out
theorem compare_any (w0 : World) (Bt b N : Nat) (ks : List Fun) (rk : Fun → Int) : ∀ n, n ≤ 100000 → CmpOk w0 Bt b N ks rk n
 | 0, _ => fun c k v c' k' v' w hl => by omega
 | n + 1, h => compare_step w0 Bt b N ks rk n (compare_any w0 Bt b N ks rk n (by omega)) (by omega)
end
section
open Go Go.RowKit Go.Maps Go.Sort Go.Shelf
def fl (x y : Fun) : Prop := x.2 < y.2 ∨ (x.2 = y.2 ∧ Op.bytesLess x.1.toList y.1.toList = true)
theorem funCmp_lt (x y : Fun) : funCmp x y < 0 ↔ fl x y := by
 unfold funCmp orI cmpI cmpS fl
 by_cases h1 : x.2 < y.2
 ·simp [h1]
 ·by_cases h2 : y.2 < x.2
  ·simp [h1, h2]; omega
  ·have e : x.2 = y.2 := by omega
   cases h3 : Op.bytesLess x.1.toList y.1.toList with
   | true => simp [e]
   | false =>
     simp [e]
     split <;> decide
theorem fl_swo : SWO (ltOf funCmp) where
 irrefl x := by
  have : ¬ fl x x := fun h => by rcases h with h | h; omega; rw [bl_irrefl] at h; simp at h
  simp [ltOf, funCmp_lt, this]
 trans x y z h1 h2 := by
  simp only [ltOf, decide_eq_true_eq, funCmp_lt] at *
  rcases h1 with h1 | ⟨h1, h1'⟩ <;> rcases h2 with h2 | ⟨h2, h2'⟩
  ·left; omega
  ·left; omega
  ·left; omega
  ·right; exact ⟨by omega, bl_trans _ _ _ h1' h2'⟩
 ntrans x y z h1 h2 := by
  simp only [ltOf, decide_eq_false_iff_not, funCmp_lt] at *
  intro h
  unfold fl at *
  rcases h with h | ⟨h, h'⟩
  ·exact h1 (.inl (by by_cases e : x.2 < y.2; exact e; exact absurd (.inl (by omega)) h2))
  ·have e1 : ¬ x.2 < y.2 := fun e => h1 (.inl e)
   have e2 : ¬ y.2 < z.2 := fun e => h2 (.inl e)
   have e3 : x.2 = y.2 := by omega
   have n1 : Op.bytesLess x.1.toList y.1.toList = false := by simpa using fun e => h1 (.inr ⟨e3, e⟩)
   have n2 : Op.bytesLess y.1.toList z.1.toList = false := by simpa using fun e => h2 (.inr ⟨by omega, e⟩)
   by_cases e : x.1.toList = y.1.toList
   ·rw [e] at h'; rw [n2] at h'; simp at h'
   ·have := bl_tri _ _ n1 e
    rw [bl_trans _ _ _ this h'] at n2; simp at n2
end
section
open Go Go.RowKit Go.Maps
def RankOk (rk : Fun → Int) (ks : List Fun) : Prop := ∀ f ∈ ks, ∀ g ∈ ks, cmpI (rk f) (rk g) = funCmp f g
theorem orI_assoc (x y z : Int) : orI (orI x y) z = orI x (orI y z) := by unfold orI; split <;> simp_all
theorem cmpI_sgn {x y : Int} (h : x ≠ y) : cmpI x y = sgn (decide (x < y)) := by
 unfold cmpI sgn
 by_cases h1 : x < y
 ·simp [h1]
 ·have : y < x := by omega
  simp [h1, this]
theorem cmpI_self (x : Int) : cmpI x x = 0 := by simp [cmpI]
theorem cmpS_cell (x y : ByteArray) : cmpS x y = if x.toList == y.toList then 0 else sgn (Op.bytesLess x.toList y.toList) := by
 unfold cmpS sgn
 cases h : (x.toList == y.toList) with
 | true =>
   have e : x.toList = y.toList := by simpa using h
   rw [e, bl_irrefl]; simp
 | false => cases h2 : Op.bytesLess x.toList y.toList <;> simp
theorem orI_l {x y : Int} (h : x ≠ 0) : orI x y = x := by rw [orI, if_pos h]
theorem orI_z (y : Int) : orI 0 y = y := by simp [orI]
theorem cmpI_nz {x y : Int} (h : x ≠ y) : cmpI x y ≠ 0 := by rw [cmpI_sgn h]; exact sgn_ne _
theorem cellCmp_or (c c' : Cel) : cellCmp c c' = orI (cmpI c.1 c'.1) (orI (cmpI c.2.1 c'.2.1) (cmpS (strOfNums c.2.2) (strOfNums c'.2.2))) := by
 unfold cellCmp
 by_cases h1 : c.1 = c'.1
 ·rw [if_neg (by simp [h1]), h1, cmpI_self, orI_z]
  by_cases h2 : c.2.1 = c'.2.1
  ·rw [if_neg (by simp [h2]), h2, cmpI_self, orI_z, cmpS_cell]
  ·rw [if_pos h2, orI_l (cmpI_nz h2), cmpI_sgn h2]
 ·rw [if_pos h1, orI_l (cmpI_nz h1), cmpI_sgn h1]
theorem cmpN_cell {rk : Fun → Int} {ks : List Fun} (hr : RankOk rk ks) {c c' : Cel} (hb : cellB c.1 c.2.1 c.2.2.length = true) (hb' : cellB c'.1 c'.2.1 c'.2.2.length = true) (hn : (c.1 = 2 ∨ c.1 = 3) → (strOfNums c.2.2, c.2.1) ∈ ks) (hn' : (c'.1 = 2 ∨ c'.1 = 3) → (strOfNums c'.2.2, c'.2.1) ∈ ks) :
  cmpN rk c c' = cellCmp c c' := by
 rw [cellCmp_or, cmpN]
 by_cases h1 : c.1 = c'.1
 ·rw [h1, cmpI_self, orI_z, orI_z]
  by_cases h2 : c.1 = 2 ∨ c.1 = 3
  ·have h2' : c'.1 = 2 ∨ c'.1 = 3 := by rw [← h1]; exact h2
   rw [rankOf, rankOf, if_pos h2, if_pos h2', hr _ (hn h2) _ (hn' h2')]; rfl
  ·have h2' : ¬ (c'.1 = 2 ∨ c'.1 = 3) := by rw [← h1]; exact h2
   rw [rankOf, rankOf, if_neg h2, if_neg h2']
   have l1 : c.2.2 = [] := by
    simp only [cellB, decide_eq_true_eq] at hb
    apply List.length_eq_zero_iff.1; omega
   have l2 : c'.2.2 = [] := by
    simp only [cellB, decide_eq_true_eq] at hb'
    apply List.length_eq_zero_iff.1; omega
   have e : cmpS (strOfNums c.2.2) (strOfNums c'.2.2) = 0 := by rw [l1, l2, cmpS, bl_irrefl]; simp
   rw [e]
   unfold orI
   split <;> simp_all
 ·rw [orI_l (cmpI_nz h1), orI_l (cmpI_nz h1)]
theorem cellCmp_zero {c c' : Cel} (h : cellCmp c c' = 0) : c.1 = c'.1 ∧ c.2.1 = c'.2.1 := by
 rw [cellCmp_or] at h
 by_cases h1 : c.1 = c'.1
 ·refine ⟨h1, ?_⟩
  rw [h1, cmpI_self, orI_z] at h
  by_cases h2 : c.2.1 = c'.2.1
  ·exact h2
  ·rw [orI_l (cmpI_nz h2)] at h; exact absurd h (cmpI_nz h2)
 ·rw [orI_l (cmpI_nz h1)] at h; exact absurd h (cmpI_nz h1)
theorem cmpC_cons (c c' : Cel) (xs ys : List Cel) : cmpC (c :: xs) (c' :: ys) = orI (cellCmp c c') (cmpC xs ys) := rfl
theorem cmpC_fo {rk : Fun → Int} {ks : List Fun} (hr : RankOk rk ks) : ∀ (K K' : Fo) (X X' : List Cel), K.ok → K'.ok → K.count = K'.count → NamesIn ks K.cells → NamesIn ks K'.cells → cmpC (K.cells ++ X) (K'.cells ++ X') = orI (cmpFo rk K K') (cmpC X X')
 | .nil, .nil, X, X', _, _, _, _, _ => by simp [Fo.cells, cmpFo, orI_z]
 | .nil, .node c k r, X, X', _, _, h, _, _ => by simp [Fo.count] at h
 | .node c k r, .nil, X, X', _, _, h, _, _ => by simp [Fo.count] at h
 | .node c k r, .node c' k' r', X, X', ho, ho', hc, hn, hn' => by
   have n1 := hn c (by simp [Fo.cells]); have n2 := hn' c' (by simp [Fo.cells]); have e := cmpN_cell hr ho.1 ho'.1 n1 n2; simp only [Fo.cells, List.cons_append, List.append_assoc, cmpC_cons, cmpFo, e]
   by_cases hz : cellCmp c c' = 0
   ·obtain ⟨h1, h2⟩ := cellCmp_zero hz
    have hk : k.count = k'.count := by
     by_cases h3 : c.1 = 3
     ·have a := ho.2.2.1 h3
      have b := ho'.2.2.1 (by rw [← h1]; exact h3)
      omega
     ·rw [ho.2.2.2.1 h3, ho'.2.2.2.1 (by rw [← h1]; exact h3)]
    have hrc : r.count = r'.count := by simpa [Fo.count] using hc
    have i1 := cmpC_fo hr k k' (r.cells ++ X) (r'.cells ++ X') ho.2.2.2.2.1 ho'.2.2.2.2.1 hk (hn.sub fun x hx => by simp [Fo.cells, hx]) (hn'.sub fun x hx => by simp [Fo.cells, hx]); have i2 := cmpC_fo hr r r' X X' ho.2.2.2.2.2 ho'.2.2.2.2.2 hrc (hn.sub fun x hx => by simp [Fo.cells, hx]) (hn'.sub fun x hx => by simp [Fo.cells, hx]); rw [i1, i2, hz, orI_z, orI_z, orI_assoc]
   ·rw [orI_l hz, orI_l hz, orI_l hz, orI_l hz]
theorem compare_cells {rk : Fun → Int} {ks : List Fun} (hr : RankOk rk ks) (c c' : Cel) (k k' : Fo) (ho : (Fo.node c k .nil).ok) (ho' : (Fo.node c' k' .nil).ok) (hn : NamesIn ks (c :: k.cells)) (hn' : NamesIn ks (c' :: k'.cells)) : orI (cmpN rk c c') (cmpFo rk k k') = cmpC (c :: k.cells) (c' :: k'.cells) := by
 have h := cmpC_fo hr (.node c k .nil) (.node c' k' .nil) [] [] ho ho' rfl (by simpa [Fo.cells] using hn) (by simpa [Fo.cells] using hn'); simp only [Fo.cells, List.append_nil, cmpFo] at h; rw [h]
 unfold orI
 simp only [cmpC]
 split <;> simp_all
end
end Go.Proofs.YtdmmchoicngblaaGreatDoor
