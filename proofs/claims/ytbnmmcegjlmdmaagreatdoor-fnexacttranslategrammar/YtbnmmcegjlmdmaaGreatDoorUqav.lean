/- Texts of Ren2, Items1, Items2, MkL. Own work of the verifier. -/
import Derived.Test.YtbnmmcegjlmdmaaGreatDoorUqau
import Derived.Test.YtbnmmcegjlmdmaaGreatDoorUqaf
import Derived.Test.YtbnmmcegjlmdmaaGreatDoorUqar
import Derived.WideShapes
import Derived.Test.YtbnmmcegjlmdmaaGreatDoorUqas
import Derived.Test.YtbnmmcegjlmdmaaGreatDoorUqat
namespace Go.Proofs.YtbnmmcegjlmdmaaGreatDoor
open Go Go.RowKit Go.Maps
set_option linter.unusedVariables false
end Go.Proofs.YtbnmmcegjlmdmaaGreatDoor

namespace Go.Proofs.YtbnmmcegjlmdmaaGreatDoor
open Go Go.RowKit
set_option linter.unusedVariables false
theorem one_iface (t : TypeId) (x : Value) : ∀ u ∈ [Value.iface t x], u.oneCell' = true := fun u hu => by simp at hu; rw [hu]; rfl
def SplitOut (w0 : World) (Bt : Nat) (w : World) (c : Cel) (k : Fo) (e : Ending) (w' : World) : Prop :=
  ∃ p n cp v vs, e = .returned (.tuple #[.slice p n cp, v]) ∧ n = (splitF c k).1.length ∧ w'.ownsRow w.heap.size 49 1 (.slice p n cp) n vs ∧ FoIn w0 Bt (itsF (splitF c k).1) vs ∧ FoIn w0 Bt (.node (splitF c k).2.1 (splitF c k).2.2 .nil) [v] ∧
    (itsF (splitF c k).1).ok ∧ (Fo.node (splitF c k).2.1 (splitF c k).2.2 .nil).ok ∧ Below w.heap.size w w'
set_option maxRecDepth 100000 in
set_option maxHeartbeats 2000000 in
theorem splitList_any (c : Cel) (k : Fo) (v : Value) (Bt : Nat) (w0 w : World) (hok : (Fo.node c k .nil).ok) (hfo : FoIn w0 Bt (.node c k .nil) [v]) (hw : Below w0.heap.size w0 w) (hl : k.cells.length ≤ 10000) :
    Calls Tryz.prog 78 #[v] w (SplitOut w0 Bt w c k) := by
  obtain ⟨vt0, vx0, rfl⟩ := hfo.iface
  have HFO : Hid (FoIn w0 Bt (.node c k .nil) [.iface vt0 vx0]) := hfo
  have HOK : Hid (Fo.node c k .nil).ok := hok
  have HW : Hid (Below w0.heap.size w0 w) := hw
  have hws := hw.size
  clear hfo hok hw
  go_enter Tryz.func78, Tryz.ntmps78
  go_wp2_with fail
  go_loopw [0, 4] (fun t s wr => ∃ (its : List (Cel × Fo)) (c' : Cel) (k' : Fo) (vt : TypeId) (vx : Value) (vs : List Value) (p4 : Option Addr) (n4 c4 : Nat), n4 + k'.cells.length ≤ 10000 ∧ t = .iface vt vx ∧ s = .slice p4 n4 c4 ∧ Hid (splitF c k = (its ++ (splitF c' k').1, (splitF c' k').2) ∧ n4 = its.length) ∧
    Hid (FoIn w0 Bt (.node c' k' .nil) [.iface vt vx]) ∧ Hid ((Fo.node c' k' .nil).ok ∧ (itsF its).ok) ∧ Hid (FoIn w0 Bt (itsF its) vs) ∧ Hid (wr.ownsRow w.heap.size 49 1 (.slice p4 n4 c4) n4 vs) ∧ Hid (Below w.heap.size w wr)) (fun _ s _ => 10001 - lenOf s)
  case atStart => exact ⟨[], c, k, vt0, vx0, [], none, 0, 0, by omega, rfl, rfl, ⟨rfl, rfl⟩, HFO, ⟨HOK.out, trivial⟩, rfl, World.ownsRow_nil _ _ _ _, Below.refl _ _⟩
  case round =>
    obtain ⟨its, c', k', vt, vx, vs, p4, n4, c4, hn4, rfl, rfl, HF, HT, HO, HI, HR, HB⟩ := hrel
    have stop : ∀ W, Below wr.heap.size wr W → splitF c' k' = ([], (c', k')) → SplitOut w0 Bt w c k (.returned (.tuple #[.slice p4 n4 c4, .iface vt vx])) W := fun W hW h => by
      have h1 := HF.out.1
      rw [h, List.append_nil] at h1
      refine ⟨p4, n4, c4, _, vs, rfl, by rw [h1]; exact HF.out.2, row_below HR.out hW, by rw [h1]; exact HI.out, by rw [h1]; exact HT.out, by rw [h1]; exact HO.out.2, by rw [h1]; exact HO.out.1, Below.on HB.out hW⟩
    have STOP : Hid _ := stop
    clear stop
    obtain ⟨v', vr, e, hnode, _⟩ := HT.out
    obtain ⟨rfl, rfl⟩ := List.cons.inj e
    clear e
    have leaf : ∀ c0, c'.1 = c0 → c0 ≠ 3 → splitF c' k' = ([], (c', k')) := fun c0 h1 h2 => splitF_other _ _ (fun e => h2 (by rw [← h1, e]; rfl))
    rcases hnode with ⟨h0, hv⟩ | ⟨h0, hv⟩ | ⟨h0, hv⟩ | ⟨h0, b, g, kv, hv, hcomp⟩
    · obtain ⟨rfl, rfl⟩ : vt = 84 ∧ vx = .int .i64 c'.2.1 := by injection hv with h1 h2; exact ⟨h1, h2⟩
      have HL : Hid _ := STOP.out wr (Below.refl _ _) (leaf 0 h0 (by decide))
      have n1 := noComp_var
      obtain ⟨x, ex⟩ : ∃ x, x = Value.int .i64 c'.2.1 := ⟨_, rfl⟩
      rw [← ex] at HL ⊢
      clear leaf h0 hv ex STOP HT HI HR HO
      go_wp2_with fail
      go_ret2
      exact HL.out
    · obtain ⟨rfl, rfl⟩ : vt = 95 ∧ vx = .int .i64 c'.2.1 := by injection hv with h1 h2; exact ⟨h1, h2⟩
      have HL : Hid _ := STOP.out wr (Below.refl _ _) (leaf 1 h0 (by decide))
      have n1 := noComp_num
      obtain ⟨x, ex⟩ : ∃ x, x = Value.int .i64 c'.2.1 := ⟨_, rfl⟩
      rw [← ex] at HL ⊢
      clear leaf h0 hv ex STOP HT HI HR HO
      go_wp2_with fail
      go_ret2
      exact HL.out
    · obtain ⟨rfl, rfl⟩ : vt = 74 ∧ vx = .string (strOfNums c'.2.2) := by injection hv with h1 h2; exact ⟨h1, h2⟩
      have HL : Hid _ := STOP.out wr (Below.refl _ _) (leaf 2 h0 (by decide))
      have n1 := noComp_atom
      obtain ⟨x, ex⟩ : ∃ x, x = Value.string (strOfNums c'.2.2) := ⟨_, rfl⟩
      rw [← ex] at HL ⊢
      clear leaf h0 hv ex STOP HT HI HR HO
      go_wp2_with fail
      go_ret2
      exact HL.out
    · obtain ⟨rfl, rfl⟩ : vt = 76 ∧ vx = .pointer (some ⟨b, 0, none⟩) := by injection hv with h1 h2; exact ⟨h1, h2⟩
      have n1 := isComp
      have hwr : Below w0.heap.size w0 wr := HW.out.trans (HB.out.mono hws)
      have hkc := FoIn.count _ _ hcomp.2.2.2.2.2.2
      have hcn := HO.out.1.2.2.1 h0
      obtain ⟨q, eq⟩ : ∃ q, q = kv.length := ⟨_, rfl⟩
      have d0 := (hwr.cell (World.block_lt_of_cell? _ _ hcomp.2.2.1)).trans hcomp.2.2.1
      have d1 := (hwr.cell (World.block_lt_of_cell? _ _ hcomp.2.2.2.1)).trans hcomp.2.2.2.1
      rw [← eq] at d1
      have hstr := str_eq HO.out.1.2.1 [46]
      have HSQ : Hid (c'.2.1 = q) := by show _ = _; rw [hcn, ← hkc, eq]
      obtain ⟨str, es⟩ : ∃ str, str = strOfNums c'.2.2 := ⟨_, rfl⟩
      rw [← es] at d0 hstr
      have HFU := functor_any b g q str wr d0 d1
      have HC : Hid (CompAt w0 Bt c'.2.2 k' b g kv) := hcomp
      have hqb : q ≤ 10000 := by have := Fo.count_le k'; omega
      by_cases hs : c'.2.2 = [46]
      · have hs' : str.toList = [46] := hstr.2 (by rw [hs]; rfl)
        by_cases hq : q = 2
        · have hdot : c' = dot := by
            have h1 := HSQ.out
            obtain ⟨a1, a2, a3⟩ := c'
            simp only at h0 hs h1
            rw [h0, hs, h1, hq]; rfl
          obtain ⟨c1, k1, c2, k2, rfl⟩ := two_of (k := k') (by rw [← hkc, ← eq, hq])
          obtain ⟨v1, vr1, e1, hn1, v2, vr2, e2, hn2, e3⟩ := hcomp.2.2.2.2.2.2
          have e3' : vr2 = [] := e3
          subst e3' e2
          subst e1
          obtain ⟨t1, x1, rfl⟩ := hn1.iface
          obtain ⟨t2, x2, rfl⟩ := hn2.iface
          have g0 := (hwr.cell (World.block_lt_of_cell? _ _ (hcomp.2.2.2.2.2.1 0 (by simp)))).trans (hcomp.2.2.2.2.2.1 0 (by simp))
          have g1 := (hwr.cell (World.block_lt_of_cell? _ _ (hcomp.2.2.2.2.2.1 1 (by simp)))).trans (hcomp.2.2.2.2.2.1 1 (by simp))
          simp only [List.getD_cons_zero, List.getD_cons_succ] at g0 g1
          have HG : Hid (b < w0.heap.size ∧ g < w0.heap.size) := ⟨World.block_lt_of_cell? _ _ hcomp.2.2.1, hcomp.2.2.2.2.1⟩
          have HNEXT : Hid (splitF c k = ((its ++ [(c1, k1)]) ++ (splitF c2 k2).1, (splitF c2 k2).2) ∧ FoIn w0 Bt (.node c2 k2 .nil) [.iface t2 x2] ∧ ((Fo.node c2 k2 .nil).ok ∧ (itsF (its ++ [(c1, k1)])).ok) ∧ FoIn w0 Bt (itsF (its ++ [(c1, k1)])) (vs ++ [.iface t1 x1]) ∧ (its ++ [(c1, k1)]).length = n4 + 1) := by
            have hk := HO.out.1.2.2.2.2.1
            refine ⟨?_, ⟨_, [], rfl, hn2, rfl⟩, ⟨hk.2.2.2.2.2, ?_⟩, ?_, by simp [HF.out.2]⟩
            · rw [HF.out.1, hdot, splitF_dot]; simp
            · rw [itsF_snoc, Fo.ok_cat]
              exact ⟨HO.out.2, hk.1, hk.2.1, hk.2.2.1, hk.2.2.2.1, hk.2.2.2.2.1, trivial⟩
            · rw [itsF_snoc]
              exact FoIn.cat _ _ _ _ HI.out ⟨_, [], rfl, hn1, rfl⟩
          have hnn : n4 + 1 + k2.cells.length ≤ 10000 := by simp [Fo.cells] at hn4; omega
          subst hq
          have HROW : Hid (wr.ownsRow w.heap.size 49 1 (.slice p4 n4 c4) n4 vs) := HR.out
          have hBs : w.heap.size ≤ wr.heap.size := HB.out.size
          obtain ⟨i0, hi, hz0, hz1, hz2⟩ := info_parts infoTerm
          have HWS : Hid (w0.heap.size ≤ w.heap.size) := hws
          clear leaf h0 hv STOP HT HO HI HR HF hcomp hkc hcn eq es hstr hs hdot hn1 hn2 e3 hwr HSQ hn4 HFO HOK
          go_wp2_with fail
          refine HFU.mono ?_
          rintro e w2 ⟨rfl, hb2⟩
          have f0 := (hb2.cell (World.block_lt_of_cell? _ _ d1)).trans d1
          have f1 := (hb2.cell (World.block_lt_of_cell? _ _ g0)).trans g0
          have f2 := (hb2.cell (World.block_lt_of_cell? _ _ g1)).trans g1
          have HR2 : Hid (w2.ownsRow w.heap.size 49 1 (.slice p4 n4 c4) n4 vs) := row_below HROW.out hb2
          have HB2 : Hid (Below w.heap.size w w2) := Below.on HB.out hb2
          have hBs2 : w.heap.size ≤ w2.heap.size := HB2.out.size
          clear d0 d1 g0 g1 hb2 HROW HFU
          go_wp2_with fail
          go_region_held3 (fun W => W.cell? ⟨b, 1, none⟩ = some (.slice (some ⟨g, 0, none⟩) 2 2) ∧ W.cell? ⟨g, 0, none⟩ = some (.iface t1 x1) ∧ W.cell? ⟨g, 1, none⟩ = some (.iface t2 x2))
            (first | exact kk | go_keep)
            ((refine step_append_lies _ rfl _ _ 55 rfl w.heap.size 49 i0 .nilIface 1 16 Tryz.underlying55 hi hz0 hz1 hz2 rfl (by decide) (.slice p4 n4 c4) n4 vs rfl (World.ownsRow.alloc (w := w2.drew) HR2.out _) ⟨w2.heap.size, 0, none⟩ 1 1 [.iface t1 x1] rfl rfl (cell_one_new (w2.drew) _ _) (one_iface t1 x1) (by decide) (by unfold maxLen; omega) (by omega) (by simp; omega) _ rfl ?_; intro g5 cap5 w5 hown5 hgrow5 hat5 hlt5; have hb5 : Below w.heap.size (w2.drew.alloc (Obj.cells #[.iface t1 x1] 49)) w5 := (Below.refl _ _).grown hgrow5 (by simp; omega) (fun k hk => (HR2.out.lt k hk).1); have kk : w5.cell? ⟨b, 1, none⟩ = some (.slice (some ⟨g, 0, none⟩) 2 2) ∧ w5.cell? ⟨g, 0, none⟩ = some (.iface t1 x1) ∧ w5.cell? ⟨g, 1, none⟩ = some (.iface t2 x2) := ⟨(hb5.cell (show b < w.heap.size by have := HG.out; have := HWS.out; omega)).trans (Lib.cell?_alloc_marked (W := w2.drew) _ f0), (hb5.cell (show g < w.heap.size by have := HG.out; have := HWS.out; omega)).trans (Lib.cell?_alloc_marked (W := w2.drew) _ f1), (hb5.cell (show g < w.heap.size by have := HG.out; have := HWS.out; omega)).trans (Lib.cell?_alloc_marked (W := w2.drew) _ f2)⟩))
          have HO5 : Hid (w5.ownsRow w.heap.size 49 1 (.slice (some ⟨g5, 0, none⟩) (n4 + 1) cap5) (n4 + 1) (vs ++ [Value.iface t1 x1])) := hown5
          have HB5 : Hid (Below w.heap.size w w5) := ((HB2.out.drew).alloc hBs2 _).trans hb5
          clear hown5 hgrow5 hat5 hb5 kk f0 f1 f2 hi hz0 hz1 hz2
          go_wp2_with fail
          go_roundw
          case rel => exact ⟨its ++ [(c1, k1)], c2, k2, t2, x2, vs ++ [Value.iface t1 x1], _, n4 + 1, cap5, hnn, rfl, rfl, ⟨HNEXT.out.1, HNEXT.out.2.2.2.2.symm⟩, HNEXT.out.2.1, HNEXT.out.2.2.1, HNEXT.out.2.2.2.1, HO5, HB5⟩
          case measure => simp [lenOf]; omega
        · have hq' : ¬ ((q : Int) = 2) := by omega
          have HL : Hid _ := fun W hW => STOP.out W hW (splitF_other _ _ (fun e => hq (by have h1 := HSQ.out; rw [e] at h1; simp [dot] at h1; omega)))
          clear leaf h0 hv STOP HT HO HI HR HF hcomp hkc hcn eq es hstr hs hq HSQ hwr d0 d1
          go_wp2_with fail
          refine HFU.mono ?_
          rintro e w2 ⟨rfl, hb2⟩
          go_wp2_with fail
          go_ret2
          exact HL.out _ hb2
      · have hs' : ¬ str.toList = [46] := fun h => hs (by have := hstr.1 h; simpa using this)
        have HL : Hid _ := fun W hW => STOP.out W hW (splitF_other _ _ (fun e => hs (by rw [e]; rfl)))
        clear leaf h0 hv STOP HT HO HI HR HF hcomp hkc hcn eq es hstr hs HSQ hwr d0 d1
        go_wp2_with fail
        refine HFU.mono ?_
        rintro e w2 ⟨rfl, hb2⟩
        go_wp2_with fail
        go_ret2
        exact HL.out _ hb2
end Go.Proofs.YtbnmmcegjlmdmaaGreatDoor

namespace Go.Proofs.YtbnmmcegjlmdmaaGreatDoor
open Go Go.RowKit
set_option linter.unusedVariables false
theorem FoIn.at_ {w : World} {B : Nat} : ∀ (its : List (Cel × Fo)) (vs : List Value), FoIn w B (itsF its) vs → ∀ i (h : i < its.length), ∃ t x, vs[i]? = some (.iface t x) ∧ FoIn w B (.node its[i].1 its[i].2 .nil) [.iface t x]
  | [], vs, _, i, h => by simp at h
  | a :: r, vs, ⟨v, vr, e, hn, hr⟩, 0, _ => by
    obtain ⟨t, x, rfl⟩ := hn.iface
    exact ⟨t, x, by rw [e]; rfl, _, [], rfl, hn, rfl⟩
  | a :: r, vs, ⟨v, vr, e, hn, hr⟩, i + 1, h => by
    obtain ⟨t, x, h1, h2⟩ := FoIn.at_ r vr hr i (by simpa using h)
    exact ⟨t, x, by rw [e]; simpa using h1, by simpa using h2⟩
end Go.Proofs.YtbnmmcegjlmdmaaGreatDoor

namespace Go.Proofs.YtbnmmcegjlmdmaaGreatDoor
open Go Go.RowKit
set_option linter.unusedVariables false
theorem conv_dot (w : World) : (convert 32 32 (.slice (some ⟨w.heap.size, 0, none⟩) 1 1)).run Tryz.prog (w.alloc (.cells #[.int .u8 46] 5)) = .ok (.slice (some ⟨w.heap.size, 0, none⟩) 1 1) (w.alloc (.cells #[.int .u8 46] 5 (1, 2))) :=
  Lib.run_convert_bytes_const (P := Tryz.prog) w 32 5 #[.int .u8 46] 1 1 Tryz.underlying32 Tryz.underlying5
theorem dot_text (w : World) : OwnT (w.alloc (.cells #[.int .u8 46] 5 (1, 2))) w.heap.size (some ⟨w.heap.size, 0, none⟩) 1 1 [46] := ⟨rfl, fun _ => ⟨w.heap.size, rfl, Nat.le_refl _, by simp, fun i hi => by
  have hi0 : i = 0 := by omega
  subst hi0
  refine ⟨cell_of_row _ _ 0 _ _ _ (heap_alloc_new _ _), ?_⟩
  simp only [World.frozen?, heap_alloc_new]
  simp⟩⟩
def mkL (css : List (List Cel)) : List Cel := css.flatMap (fun cs => dot :: cs)
theorem mkL_take (css : List (List Cel)) (j : Nat) (h : j < css.length) : mkL (css.take (j + 1)) = mkL (css.take j) ++ [dot] ++ css.getD j [] := by
  rw [mkL, List.take_succ_eq_append_getElem h, List.flatMap_append, List.getD, List.getElem?_eq_getElem h]
  simp [mkL]
set_option maxRecDepth 100000 in
set_option maxHeartbeats 1000000 in
theorem l2listE_any (css : List (List Cel)) (en : List Cel) (p q : Option Addr) (n c le cq : Nat) (w : World) (hle : le = en.length) (hle0 : 0 < le) (hlb : le + tl en ≤ 1000000) (hn : n = css.length) (hl : n ≤ 2000) (hne : ∀ i, i < css.length → 0 < (css.getD i []).length) (hb : css.length + tll css ≤ 1048576) (hsz : (mkL css).length ≤ 1000000) (hin : CCIn w p css) (hend : CIn w q en) :
    Calls Tryz.prog 38 #[.slice p n c, .slice q le cq] w fun e w' => ∃ r m cr, e = .returned (.slice r m cr) ∧ OwnC w' w.heap.size r m cr (mkL css ++ en) ∧ Below w.heap.size w w' := by
  have HI : Hid (CCIn w p css) := hin
  have HE : Hid (CIn w q en) := hend
  have HLE : Hid (le = en.length) := hle
  have HLB : Hid (le + tl en ≤ 1000000) := hlb
  have hle1 : le ≤ 1000000 := by omega
  have HN : Hid (n = css.length) := hn
  have HNE : Hid _ := hne
  have hcs := conv_dot
  clear hin hend hn hne hle hlb
  go_enter Tryz.func38, Tryz.ntmps38
  go_wp2_with fail
  go_loopw [5, 6] (fun s i wr => ∃ (j : Nat) (r : Option Addr) (m cr : Nat), j ≤ n ∧ m ≤ 1000000 ∧ i = .int .i64 j ∧ s = .slice r m cr ∧ Hid (OwnC wr w.heap.size r m cr (mkL (css.take j))) ∧ Hid (Below w.heap.size w wr)) (fun _ i _ => n - (intOf i).toNat)
  case atStart => exact ⟨0, none, 0, 0, Nat.zero_le _, by decide, rfl, rfl, OwnC.nil _ _, Below.refl _ _⟩
  case round =>
    obtain ⟨j, r, m, cr, hj, hm, rfl, rfl, HO, HB⟩ := hrel
    have hBs : w.heap.size ≤ wr.heap.size := HB.out.size
    by_cases hlt : j < n
    · have hjl : j < css.length := by rw [← HN.out]; exact hlt
      have hal : Below wr.heap.size wr (wr.alloc (.cells #[.int .u8 46] 5 (1, 2))) := (Below.refl _ _).alloc (Nat.le_refl _) _
      have HT0 : Hid (OwnT (wr.alloc (.cells #[.int .u8 46] 5 (1, 2))) wr.heap.size (some ⟨wr.heap.size, 0, none⟩) 1 1 [46]) := dot_text wr
      obtain ⟨b, o, rfl, hcss⟩ := HI.out (by omega)
      obtain ⟨qi, ci, x0, x1⟩ := hcss j hjl
      have HX1 : Hid (CIn w qi (css.getD j [])) := x1
      have hbj := tll_at css j hjl
      have hpos := HNE.out j hjl
      obtain ⟨li, eli⟩ : ∃ li, li = (css.getD j []).length := ⟨_, rfl⟩
      have HLI : Hid (li = (css.getD j []).length) := eli
      have hli : 0 < li := by omega
      have hli2 : li ≤ 1048576 := by omega
      rw [← eli] at x0
      have X0 : Hid (w.cell? ⟨b, o + j, none⟩ = some (.slice qi li ci)) := x0
      have HBJ : Hid ((css.getD j []).length + tl (css.getD j []) ≤ 1048576) := by show _ ≤ _; omega
      have HMK : Hid _ := mkL_take css j hjl
      have HML : Hid ((mkL (css.take (j + 1))).length ≤ 1000000) := by
        have h1 : mkL css = mkL (css.take (j + 1)) ++ mkL (css.drop (j + 1)) := by rw [mkL, mkL, mkL, ← List.flatMap_append, List.take_append_drop]
        have h2 := congrArg List.length h1
        rw [List.length_append] at h2
        show _ ≤ _
        omega
      clear hcss x1 hbj hpos eli x0
      have hal2 : Below (wr.alloc (.cells #[.int .u8 46] 5 (1, 2))).heap.size (wr.alloc (.cells #[.int .u8 46] 5 (1, 2))) ((wr.alloc (.cells #[.int .u8 46] 5 (1, 2))).alloc (Obj.cells #[Value.int IntKind.i64 3, Value.int IntKind.i64 2, Value.slice (some ⟨wr.heap.size, 0, none⟩) 1 1] 43)) := (Below.refl _ _).alloc (Nat.le_refl _) _
      have HBA : Hid (Below wr.heap.size wr ((wr.alloc (.cells #[.int .u8 46] 5 (1, 2))).alloc (Obj.cells #[Value.int IntKind.i64 3, Value.int IntKind.i64 2, Value.slice (some ⟨wr.heap.size, 0, none⟩) 1 1] 43))) := Below.on hal hal2
      have HTT : Hid (OwnT ((wr.alloc (.cells #[.int .u8 46] 5 (1, 2))).alloc (Obj.cells #[Value.int IntKind.i64 3, Value.int IntKind.i64 2, Value.slice (some ⟨wr.heap.size, 0, none⟩) 1 1] 43)) wr.heap.size (some ⟨wr.heap.size, 0, none⟩) 1 1 [46]) := HT0.out.below hal2
      have hnew := heap_alloc_new (wr.alloc (.cells #[.int .u8 46] 5 (1, 2))) (Obj.cells #[Value.int IntKind.i64 3, Value.int IntKind.i64 2, Value.slice (some ⟨wr.heap.size, 0, none⟩) 1 1] 43)
      have esz : (wr.alloc (.cells #[.int .u8 46] 5 (1, 2))).heap.size = wr.heap.size + 1 := by simp
      rw [esz] at hnew
      have HBX : Hid (Box3 ((wr.alloc (.cells #[.int .u8 46] 5 (1, 2))).alloc (Obj.cells #[Value.int IntKind.i64 3, Value.int IntKind.i64 2, Value.slice (some ⟨wr.heap.size, 0, none⟩) 1 1] 43)) (wr.heap.size + 1) (.int .i64 3) (.int .i64 2) (.slice (some ⟨wr.heap.size, 0, none⟩) 1 1)) := Box3.of_block (t := 43) hnew
      clear hal hal2 hnew esz HT0
      go_wp2_with (at_builtin; refine app_cell wr _ rfl _ _ rfl w.heap.size r m cr _ rfl HO.out HBA.out hBs ⟨wr.heap.size + 1, 0, none⟩ 1 rfl 3 2 (some ⟨wr.heap.size, 0, none⟩) 1 1 [46] HTT.out (news_rc HBX.out) (by omega) ?_; intro g1 n1 cap1 w2 hown2 hb2 hn1; have hB2 : Below w.heap.size w w2 := (HB.out.trans (HBA.out.mono hBs)).trans hb2; have y0 := (hB2.cell (World.block_lt_of_cell? _ _ X0.out)).trans X0.out)
      have HB2 : Hid (Below w.heap.size w w2) := hB2
      have HO2 : Hid (OwnC w2 w.heap.size (some ⟨g1, 0, none⟩) n1 cap1 (mkL (css.take j) ++ [dot])) := hown2
      have HN1 : Hid (n1 = m + 1) := hn1.out
      have hn1' : n1 ≤ 1000001 := by have := hn1.out; omega
      have HCP := l2copy_any qi li ci (css.getD j []) w2 HLI.out (by have := HBJ.out; omega) (HX1.out.below hB2)
      clear hown2 hb2 hB2
      refine HCP.mono ?_
      rintro e w3 ⟨q3, m3, c3, rfl, ho3, hb3⟩
      have HO3 : Hid (OwnC w3 w2.heap.size q3 m3 c3 (css.getD j [])) := ho3
      have HB3 : Hid (Below w2.heap.size w2 w3) := hb3
      have HM3 : Hid (m3 = li) := by show _ = _; rw [ho3.1, HLI.out]
      have hm3 : 0 < m3 := by have := HM3.out; omega
      have hm3' : m3 ≤ 1048576 := by have := HM3.out; omega
      have hBs2 : w.heap.size ≤ w2.heap.size := HB2.out.size
      clear ho3 hb3 HCP
      go_wp2_with (at_builtin; refine app_cells w2 w3 rfl _ _ rfl w.heap.size (some ⟨g1, 0, none⟩) n1 cap1 _ rfl HO2.out HB3.out hBs2 q3 m3 c3 _ rfl HO3.out hm3 (by omega) ?_; intro g4 n4 cap4 w4 hown4 hb4 hn4)
      have HO4 : Hid (OwnC w4 w.heap.size (some ⟨g4, 0, none⟩) n4 cap4 (mkL (css.take (j + 1)))) := by rw [HMK.out]; exact hown4
      have HB4 : Hid (Below w.heap.size w w4) := (Below.on HB2.out HB3.out).trans hb4
      have hn4' : n4 ≤ 1000000 := by rw [HO4.out.1]; exact HML.out
      clear hown4 hb4
      go_roundw
      case rel => exact ⟨j + 1, _, n4, cap4, by omega, hn4', by go_num, rfl, HO4, HB4⟩
      case measure => simp [intOf]; omega
    · obtain rfl : j = n := by omega
      have HCP := l2copy_any q le cq en wr HLE.out (by have := HLB.out; have := HLE.out; omega) (HE.out.below HB.out)
      have HOA : Hid (OwnC wr w.heap.size r m cr (mkL css)) := by have := HO.out; rwa [List.take_of_length_le (by rw [← HN.out]; exact Nat.le_refl _)] at this
      go_wp2_with fail
      refine HCP.mono ?_
      rintro e w3 ⟨q3, m3, c3, rfl, ho3, hb3⟩
      have HO3 : Hid (OwnC w3 wr.heap.size q3 m3 c3 en) := ho3
      have HB3 : Hid (Below wr.heap.size wr w3) := hb3
      have hm3 : m3 = le := by rw [ho3.1, HLE.out]
      subst hm3
      clear ho3 hb3 HCP
      go_wp2_with (at_builtin; refine app_cells wr w3 rfl _ _ rfl w.heap.size r m cr _ rfl HOA.out HB3.out hBs q3 m3 c3 _ rfl HO3.out hle0 (by omega) ?_; intro g4 n4 cap4 w4 hown4 hb4 hn4)
      go_ret
      exact ⟨_, _, _, rfl, hown4, (Below.on HB.out HB3.out).trans hb4⟩
end Go.Proofs.YtbnmmcegjlmdmaaGreatDoor

