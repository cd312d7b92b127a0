/- Texts of ClC, ClG, IbS. Own work of the verifier. -/
import Derived.Test.YtpigjapbhbdhbaaGreatDoorUqan
import Derived.Test.YtpigjapbhbdhbaaGreatDoorUqao
import Derived.Test.YtpigjapbhbdhbaaGreatDoorUqaq
import Derived.Deep.RegionHeld3
import Derived.Deep.AppendLies
namespace Go.Proofs.YtpigjapbhbdhbaaGreatDoor
open Go Go.RowKit
set_option linter.unusedVariables false
def fS (c : Cel) : ByteArray := if c.1 = 2 ∨ c.1 = 3 then strOfNums c.2.2 else ⟨#[]⟩
def fA (c : Cel) : Int := if c.1 = 3 then c.2.1 else 0
theorem fo_any {w0 : World} {Bt : Nat} (c : Cel) (k : Fo) (v : Value) (w : World) (hok : (Fo.node c k .nil).ok) (hfo : FoIn w0 Bt (.node c k .nil) [v]) (hw : Below w0.heap.size w0 w) :
    Calls Tryz.prog 78 #[v] w fun e w' => e = .returned (.tuple #[.agg #[.string (fS c), .int .i64 (fA c)], .bool (calC c)]) ∧ Below w.heap.size w w' := by
  obtain ⟨v', vr, e, hn, _⟩ := hfo
  obtain ⟨rfl, rfl⟩ := List.cons.inj e
  rcases hn with ⟨h, rfl⟩ | ⟨h, rfl⟩ | ⟨h, rfl⟩ | ⟨h, b, g, vs, rfl, hcomp⟩
  · have e1 : fS c = ⟨#[]⟩ := by unfold fS; rw [if_neg (by omega)]
    have e2 : fA c = 0 := by unfold fA; rw [if_neg (by omega)]
    have e3 : calC c = false := by unfold calC; exact decide_eq_false (by omega)
    rw [e1, e2, e3]; exact nbFO_var _ w
  · have e1 : fS c = ⟨#[]⟩ := by unfold fS; rw [if_neg (by omega)]
    have e2 : fA c = 0 := by unfold fA; rw [if_neg (by omega)]
    have e3 : calC c = false := by unfold calC; exact decide_eq_false (by omega)
    rw [e1, e2, e3]; exact nbFO_num _ w
  · have e1 : fS c = strOfNums c.2.2 := by unfold fS; rw [if_pos (.inl h)]
    have e2 : fA c = 0 := by unfold fA; rw [if_neg (by omega)]
    have e3 : calC c = true := by unfold calC; exact decide_eq_true (.inl h)
    rw [e1, e2, e3]; exact nbFO_atom _ w
  · have e1 : fS c = strOfNums c.2.2 := by unfold fS; rw [if_pos (.inr h)]
    have e2 : fA c = vs.length := by unfold fA; rw [if_pos h, hok.2.2.1 h, FoIn.count k vs hcomp.2.2.2.2.2.2]
    have e3 : calC c = true := by unfold calC; exact decide_eq_true (.inr h)
    rw [e1, e2, e3]
    exact nbFO_comp b g vs.length _ w ((hw.cell (World.block_lt_of_cell? _ _ hcomp.2.2.1)).trans hcomp.2.2.1) ((hw.cell (World.block_lt_of_cell? _ _ hcomp.2.2.2.1)).trans hcomp.2.2.2.1)
theorem f_is {c : Cel} (hb : Byte c.2.2) (hc : cellB c.1 c.2.1 c.2.2.length = true) (l : List UInt8) (a : Int) (hl : l ≠ []) (ha : 0 < a) : ((fS c).toList = l ∧ fA c = a) ↔ c = (3, a, l.map fun u => (u.toNat : Int)) := by
  simp only [cellB, decide_eq_true_eq] at hc
  constructor
  · rintro ⟨h1, h2⟩
    unfold fA at h2
    by_cases h3 : c.1 = 3
    · rw [if_pos h3] at h2
      unfold fS at h1
      rw [if_pos (.inr h3)] at h1
      exact Prod.ext h3 (Prod.ext h2 ((str_eq hb l).1 h1))
    · rw [if_neg h3] at h2; omega
  · intro h
    have h3 : c.1 = 3 := by rw [h]
    have h4 : c.2.2 = l.map fun u => (u.toNat : Int) := by rw [h]
    refine ⟨?_, ?_⟩
    · unfold fS; rw [if_pos (.inr h3)]; exact (str_eq hb l).2 h4
    · unfold fA; rw [if_pos h3, h]
theorem one_ifaceC (t : TypeId) (x : Value) : ∀ u ∈ [Value.iface t x], u.oneCell' = true := fun u hu => by simp at hu; rw [hu]; rfl
def CjOut (w0 : World) (Bt : Nat) (w : World) (c : Cel) (k : Fo) (e : Ending) (w' : World) : Prop :=
  ∃ p n cp vs, e = .returned (.slice p n cp) ∧ n = (conjL c k).length ∧ w'.ownsRow w.heap.size 45 1 (.slice p n cp) n vs ∧ FoIn w0 Bt (itsF (conjL c k)) vs ∧ (itsF (conjL c k)).ok ∧ Below w.heap.size w w'
set_option maxRecDepth 100000 in
set_option maxHeartbeats 2000000 in
theorem conj_any (c : Cel) (k : Fo) (v : Value) (Bt : Nat) (w0 w : World) (hok : (Fo.node c k .nil).ok) (hfo : FoIn w0 Bt (.node c k .nil) [v]) (hw : Below w0.heap.size w0 w) (hl : k.cells.length ≤ 10000) :
    Calls Tryz.prog 140 #[v] w (CjOut w0 Bt w c k) := by
  obtain ⟨vt0, vx0, rfl⟩ := hfo.iface
  have HFO : Hid (FoIn w0 Bt (.node c k .nil) [.iface vt0 vx0]) := hfo
  have HOK : Hid (Fo.node c k .nil).ok := hok
  have HW : Hid (Below w0.heap.size w0 w) := hw
  have hws := hw.size
  obtain ⟨i0, hi, hz0, hz1, hz2⟩ := info_parts infoTerm
  clear hfo hok hw
  go_enter Tryz.func140, Tryz.ntmps140
  go_wp2_with fail
  go_loopw [0, 3] (fun t s wr => ∃ (its : List (Cel × Fo)) (c' : Cel) (k' : Fo) (vt : TypeId) (vx : Value) (vs : List Value) (p4 : Option Addr) (n4 c4 : Nat), n4 + k'.cells.length ≤ 10000 ∧ t = .iface vt vx ∧ s = .slice p4 n4 c4 ∧ Hid (splitC c k = (its ++ (splitC c' k').1, (splitC c' k').2) ∧ n4 = its.length) ∧
    Hid (FoIn w0 Bt (.node c' k' .nil) [.iface vt vx]) ∧ Hid ((Fo.node c' k' .nil).ok ∧ (itsF its).ok) ∧ Hid (FoIn w0 Bt (itsF its) vs) ∧ Hid (wr.ownsRow w.heap.size 45 1 (.slice p4 n4 c4) n4 vs) ∧ Hid (Below w.heap.size w wr)) (fun _ s _ => 10001 - lenOf s)
  case atStart => exact ⟨[], c, k, vt0, vx0, [], none, 0, 0, by omega, rfl, rfl, ⟨rfl, rfl⟩, HFO, ⟨HOK.out, trivial⟩, rfl, World.ownsRow_nil _ _ _ _, Below.refl _ _⟩
  case round =>
    obtain ⟨its, c', k', vt, vx, vs, p4, n4, c4, hn4, rfl, rfl, HF, HT, HO, HI, HR, HB⟩ := hrel
    have hwr : Below w0.heap.size w0 wr := HW.out.trans (HB.out.mono hws)
    have HFU := fo_any c' k' (.iface vt vx) wr HO.out.1 HT.out hwr
    have HIS := f_is HO.out.1.2.1 HO.out.1.1 [44] 2 (by simp) (by decide)
    have hBs : w.heap.size ≤ wr.heap.size := HB.out.size
    by_cases hc : c' = comma
    · have hcnt : k'.count = 2 := by
        have h9 := HO.out.1.2.2.1 (by rw [hc]; rfl)
        rw [hc] at h9
        have e2 : (comma.2.1 : Int) = 2 := rfl
        omega
      obtain ⟨hs1, hs2⟩ := HIS.2 (by rw [hc]; rfl)
      rw [hs2] at HFU
      obtain ⟨c1, k1, c2, k2, rfl⟩ := two_of hcnt
      obtain ⟨v', vr, e, hnode, _⟩ := HT.out
      obtain ⟨rfl, rfl⟩ := List.cons.inj e
      clear e
      rcases hnode with ⟨h0, hv⟩ | ⟨h0, hv⟩ | ⟨h0, hv⟩ | ⟨h0, b, g, kv, hv, hcomp⟩
      · rw [hc] at h0; exact absurd h0 (by decide)
      · rw [hc] at h0; exact absurd h0 (by decide)
      · rw [hc] at h0; exact absurd h0 (by decide)
      · obtain ⟨rfl, rfl⟩ : vt = 120 ∧ vx = .pointer (some ⟨b, 0, none⟩) := by injection hv with h1 h2; exact ⟨h1, h2⟩
        obtain ⟨v1, vr1, e1, hn1, v2, vr2, e2, hn2, e3⟩ := hcomp.2.2.2.2.2.2
        have e3' : vr2 = [] := e3
        subst e3' e2
        subst e1
        obtain ⟨t1, x1, rfl⟩ := hn1.iface
        obtain ⟨t2, x2, rfl⟩ := hn2.iface
        have d1 := (hwr.cell (World.block_lt_of_cell? _ _ hcomp.2.2.2.1)).trans hcomp.2.2.2.1
        have g0 := (hwr.cell (World.block_lt_of_cell? _ _ (hcomp.2.2.2.2.2.1 0 (by simp)))).trans (hcomp.2.2.2.2.2.1 0 (by simp))
        have g1 := (hwr.cell (World.block_lt_of_cell? _ _ (hcomp.2.2.2.2.2.1 1 (by simp)))).trans (hcomp.2.2.2.2.2.1 1 (by simp))
        simp only [List.getD_cons_zero, List.getD_cons_succ] at g0 g1
        have HG : Hid (b < w0.heap.size ∧ g < w0.heap.size) := ⟨World.block_lt_of_cell? _ _ hcomp.2.2.1, hcomp.2.2.2.2.1⟩
        have HNEXT : Hid (splitC c k = ((its ++ [(c1, k1)]) ++ (splitC c2 k2).1, (splitC c2 k2).2) ∧ FoIn w0 Bt (.node c2 k2 .nil) [.iface t2 x2] ∧ ((Fo.node c2 k2 .nil).ok ∧ (itsF (its ++ [(c1, k1)])).ok) ∧ FoIn w0 Bt (itsF (its ++ [(c1, k1)])) (vs ++ [.iface t1 x1]) ∧ (its ++ [(c1, k1)]).length = n4 + 1) := by
          have hk := HO.out.1.2.2.2.2.1
          refine ⟨?_, ⟨_, [], rfl, hn2, rfl⟩, ⟨hk.2.2.2.2.2, ?_⟩, ?_, by simp [HF.out.2]⟩
          · rw [HF.out.1, hc, splitC_comma]; simp
          · rw [itsF_snoc, Fo.ok_cat]
            exact ⟨HO.out.2, hk.1, hk.2.1, hk.2.2.1, hk.2.2.2.1, hk.2.2.2.2.1, trivial⟩
          · rw [itsF_snoc]
            exact FoIn.cat _ _ _ _ HI.out ⟨_, [], rfl, hn1, rfl⟩
        have hnn : n4 + 1 + k2.cells.length ≤ 10000 := by simp [Fo.cells] at hn4; omega
        have HROW : Hid (wr.ownsRow w.heap.size 45 1 (.slice p4 n4 c4) n4 vs) := HR.out
        have HWS : Hid (w0.heap.size ≤ w.heap.size) := hws
        have hlt4 : n4 ≤ 10000 := by omega
        generalize fS c' = str at HFU hs1
        generalize calC c' = cb at HFU
        clear h0 hv HT HO HI HR HF hcomp hc hn1 hn2 e3 hwr hn4 HFO HOK HIS hs2
        go_wp2_with fail
        refine HFU.mono ?_
        rintro e w2 ⟨rfl, hb2⟩
        have HB2 : Hid (Below w.heap.size w w2) := Below.on HB.out hb2
        have HAL : Hid (Below wr.heap.size wr (w2.alloc (.cells #[.string str, .int .i64 2] 67))) := hb2.alloc hb2.size _
        have f0 := (HAL.out.cell (World.block_lt_of_cell? _ _ d1)).trans d1
        have f1 := (HAL.out.cell (World.block_lt_of_cell? _ _ g0)).trans g0
        have f2 := (HAL.out.cell (World.block_lt_of_cell? _ _ g1)).trans g1
        have HBA : Hid (Below w.heap.size w (w2.alloc (.cells #[.string str, .int .i64 2] 67))) := Below.on HB.out HAL.out
        have hBs2 : w.heap.size ≤ (w2.alloc (.cells #[.string str, .int .i64 2] 67)).heap.size := HBA.out.size
        have HR2 : Hid ((w2.alloc (.cells #[.string str, .int .i64 2] 67)).ownsRow w.heap.size 45 1 (.slice p4 n4 c4) n4 vs) := row_below HROW.out HAL.out
        have HAR := argsComp_any b g 2 (w2.alloc (.cells #[.string str, .int .i64 2] 67)) f0
        clear d1 g0 g1 hb2 HROW HFU HAL
        go_wp2_with fail
        refine HAR.mono ?_
        rintro e w3 ⟨rfl, hw3⟩
        rw [← hw3] at f1 f2 HBA hBs2 HR2
        clear hw3 HAR f0
        go_wp2_with fail
        go_region_held3 (fun W => W.cell? ⟨g, 0, none⟩ = some (.iface t1 x1) ∧ W.cell? ⟨g, 1, none⟩ = some (.iface t2 x2))
          (first | exact kk | go_keep)
          ((refine step_append_lies _ rfl _ _ 71 rfl w.heap.size 45 i0 .nilIface 1 16 Tryz.underlying71 hi hz0 hz1 hz2 rfl (by decide) (.slice p4 n4 c4) n4 vs rfl (World.ownsRow.alloc (w := w3.drew) HR2.out _) ⟨w3.heap.size, 0, none⟩ 1 1 [.iface t1 x1] rfl rfl (cell_one_new (w3.drew) _ _) (one_ifaceC t1 x1) (by decide) (by unfold maxLen; omega) (by omega) (by simp; omega) _ rfl ?_; intro g5 cap5 w5 hown5 hgrow5 hat5 hlt5; have hb5 : Below w.heap.size (w3.drew.alloc (Obj.cells #[.iface t1 x1] 45)) w5 := (Below.refl _ _).grown hgrow5 (by simp; omega) (fun k hk => (HR2.out.lt k hk).1); have kk : w5.cell? ⟨g, 0, none⟩ = some (.iface t1 x1) ∧ w5.cell? ⟨g, 1, none⟩ = some (.iface t2 x2) := ⟨(hb5.cell (show g < w.heap.size by have := HG.out; have := HWS.out; omega)).trans (Lib.cell?_alloc_marked (W := w3.drew) _ f1), (hb5.cell (show g < w.heap.size by have := HG.out; have := HWS.out; omega)).trans (Lib.cell?_alloc_marked (W := w3.drew) _ f2)⟩))
        have HO5 : Hid (w5.ownsRow w.heap.size 45 1 (.slice (some ⟨g5, 0, none⟩) (n4 + 1) cap5) (n4 + 1) (vs ++ [Value.iface t1 x1])) := hown5
        have HB5 : Hid (Below w.heap.size w w5) := ((HBA.out.drew).alloc hBs2 _).trans hb5
        clear hown5 hgrow5 hat5 hb5 kk f1 f2
        go_wp2_with fail
        go_roundw
        case rel => exact ⟨its ++ [(c1, k1)], c2, k2, t2, x2, vs ++ [Value.iface t1 x1], _, n4 + 1, cap5, hnn, rfl, rfl, ⟨HNEXT.out.1, HNEXT.out.2.2.2.2.symm⟩, HNEXT.out.2.1, HNEXT.out.2.2.1, HNEXT.out.2.2.2.1, HO5, HB5⟩
        case measure => simp [lenOf]; omega
    · have HFIN : Hid (∀ (g5 cap5 : Nat) (W : World), W.ownsRow w.heap.size 45 1 (.slice (some ⟨g5, 0, none⟩) (n4 + 1) cap5) (n4 + 1) (vs ++ [.iface vt vx]) → Below w.heap.size w W → CjOut w0 Bt w c k (.returned (.slice (some ⟨g5, 0, none⟩) (n4 + 1) cap5)) W) := fun g5 cap5 W hr hB => by
        have h1 := HF.out.1
        rw [splitC_other c' k' hc, List.append_nil] at h1
        have e9 : conjL c k = its ++ [(c', k')] := by unfold conjL; rw [h1]
        refine ⟨_, _, _, _, rfl, by rw [e9, List.length_append, HF.out.2]; rfl, hr, ?_, ?_, hB⟩
        · rw [e9, itsF_snoc]
          exact FoIn.cat _ _ _ _ HI.out HT.out
        · rw [e9, itsF_snoc, Fo.ok_cat]
          exact ⟨HO.out.2, HO.out.1⟩
      have HROW : Hid (wr.ownsRow w.heap.size 45 1 (.slice p4 n4 c4) n4 vs) := HR.out
      have hlt4 : n4 ≤ 10000 := by omega
      have HNE : Hid (fA c' = 2 → ¬ (fS c').toList = [44]) := fun h2 h1 => hc (HIS.1 ⟨h1, h2⟩)
      generalize fS c' = str at HFU HNE
      generalize fA c' = ar at HFU HNE
      generalize calC c' = cb at HFU
      clear HT HO HI HR HF hc hwr hn4 HFO HOK HIS
      by_cases ha : ar = 2
      · have hns := HNE.out ha
        subst ha
        go_wp2_with fail
        refine HFU.mono ?_
        rintro e w2 ⟨rfl, hb2⟩
        have HAL : Hid (Below wr.heap.size wr (w2.alloc (.cells #[.string str, .int .i64 2] 67))) := hb2.alloc hb2.size _
        have HBA : Hid (Below w.heap.size w (w2.alloc (.cells #[.string str, .int .i64 2] 67))) := Below.on HB.out HAL.out
        have hBs2 : w.heap.size ≤ (w2.alloc (.cells #[.string str, .int .i64 2] 67)).heap.size := HBA.out.size
        have HR2 : Hid ((w2.alloc (.cells #[.string str, .int .i64 2] 67)).ownsRow w.heap.size 45 1 (.slice p4 n4 c4) n4 vs) := row_below HROW.out HAL.out
        have hb2s : w.heap.size ≤ w2.heap.size := (Below.on HB.out hb2).size
        clear hb2 HFU
        go_wp2_with (at_builtin; refine wpList_append_lies _ rfl _ _ 71 rfl w.heap.size 45 i0 .nilIface 1 16 Tryz.underlying71 hi hz0 hz1 hz2 rfl (by decide) (.slice p4 n4 c4) n4 vs rfl (HR2.out.alloc _) ⟨w2.heap.size + 1, 0, none⟩ 1 1 [.iface vt vx] rfl rfl (by simpa using cell_one_new (w2.alloc (.cells #[.string str, .int .i64 2] 67)) (.iface vt vx) 45) (one_ifaceC _ _) (by decide) (by unfold maxLen; omega) (by omega) (by simp; omega) _ rfl ?_; intro g5 cap5 w5 hown5 hgrow5 hat5 hlt5)
        have HB5 : Hid (Below w.heap.size w w5) := (HBA.out.alloc hBs2 _).trans ((Below.refl _ _).grown hgrow5 (by simp; omega) (fun k hk => (HR2.out.lt k hk).1))
        have HO5 : Hid _ := HFIN.out g5 cap5 w5 hown5 HB5.out
        clear hown5 hgrow5 hat5
        go_wp2_with fail
        go_ret
        exact HO5.out
      · go_wp2_with fail
        refine HFU.mono ?_
        rintro e w2 ⟨rfl, hb2⟩
        have HAL : Hid (Below wr.heap.size wr (w2.alloc (.cells #[.string str, .int .i64 ar] 67))) := hb2.alloc hb2.size _
        have HBA : Hid (Below w.heap.size w (w2.alloc (.cells #[.string str, .int .i64 ar] 67))) := Below.on HB.out HAL.out
        have hBs2 : w.heap.size ≤ (w2.alloc (.cells #[.string str, .int .i64 ar] 67)).heap.size := HBA.out.size
        have HR2 : Hid ((w2.alloc (.cells #[.string str, .int .i64 ar] 67)).ownsRow w.heap.size 45 1 (.slice p4 n4 c4) n4 vs) := row_below HROW.out HAL.out
        have hb2s : w.heap.size ≤ w2.heap.size := (Below.on HB.out hb2).size
        clear hb2 HFU
        go_wp2_with (at_builtin; refine wpList_append_lies _ rfl _ _ 71 rfl w.heap.size 45 i0 .nilIface 1 16 Tryz.underlying71 hi hz0 hz1 hz2 rfl (by decide) (.slice p4 n4 c4) n4 vs rfl (HR2.out.alloc _) ⟨w2.heap.size + 1, 0, none⟩ 1 1 [.iface vt vx] rfl rfl (by simpa using cell_one_new (w2.alloc (.cells #[.string str, .int .i64 ar] 67)) (.iface vt vx) 45) (one_ifaceC _ _) (by decide) (by unfold maxLen; omega) (by omega) (by simp; omega) _ rfl ?_; intro g5 cap5 w5 hown5 hgrow5 hat5 hlt5)
        have HB5 : Hid (Below w.heap.size w w5) := (HBA.out.alloc hBs2 _).trans ((Below.refl _ _).grown hgrow5 (by simp; omega) (fun k hk => (HR2.out.lt k hk).1))
        have HO5 : Hid _ := HFIN.out g5 cap5 w5 hown5 HB5.out
        clear hown5 hgrow5 hat5
        go_wp2_with fail
        go_ret
        exact HO5.out
end Go.Proofs.YtpigjapbhbdhbaaGreatDoor

namespace Go.Proofs.YtpigjapbhbdhbaaGreatDoor
open Go Go.RowKit
set_option linter.unusedVariables false
theorem BuIn.get {w : World} {b N : Nat} {T : Fun → Option Nat} (h : BuIn w b N T) (f : Fun) (hf : okN f) :
    (Instr.lookup 51 (.map (some b)) (.agg #[.string f.1, .int .i64 f.2]) false).run Tryz.prog w = .ok (match T f with | none => .nilFunc | some K => .func (.func K) #[] #[]) w := by
  obtain ⟨D, hown, hT⟩ := h
  obtain ⟨v, ps, hrun, hv⟩ := hown.lookup lawFun Tryz.underlying51 (zeroBu w) (zd := .held .nilFunc) (zp := []) rfl (keyFunN f hf)
  have h1 := hT f hf
  simp only [heldN, Option.some.injEq, Prod.mk.injEq] at hv
  have hv := hv.1
  rw [hrun]
  cases e : T f with
  | none =>
    rw [e] at h1
    rw [h1.2] at hv
    cases hv
    rfl
  | some c =>
    rw [e] at h1
    rw [h1.2] at hv
    cases hv
    rfl
theorem neqF_none (w : World) : (binOp .neq 206 .nilFunc .nilFunc).run Tryz.prog w = .ok (.bool false) w := by kernel_rfl
theorem neqF_some (K : Nat) (w : World) : (binOp .neq 206 (.func (.func K) #[] #[]) .nilFunc).run Tryz.prog w = .ok (.bool true) w := by kernel_rfl
def conL (l : List UInt8) (a : Int) : Bool := if l == [44] || l == [59] || l == [45, 62] || l == [102, 111, 114, 97, 108, 108] then a == 2 else if l == [92, 43] || l == [111, 110, 99, 101] then a == 1 else if l == [33] then a == 0 else false
theorem conB_L (l : List UInt8) (a : Int) : conB (bOf l) a = conL l a := by unfold conB conL; rw [bOf_list]
theorem ents_con : (bEnts.all fun p => !conL p.1 p.2) = true := by decide
theorem bu_con {xs : List Int} {a : Int} (h : isBu (unU xs) a = true) : conB (strOfNums xs) a = false := by
  rw [isBu_ents] at h
  obtain ⟨p, hp, hq⟩ := List.any_eq_true.1 h
  simp only [Bool.and_eq_true, decide_eq_true_eq] at hq
  have h2 := List.all_eq_true.1 ents_con p hp
  rw [str_unU, conB_L, ← hq.1, ← hq.2]
  simpa using h2
def giO (c : Cel) : Int := if c = (3, 1, lvlN) then 23 else if c = (3, 1, mrkN) then 24 else if c = (3, 1, cutN) then 25 else if calC c = true ∧ isBu (unU c.2.2) (fA c) = true then 22 else 19
theorem spc_iff (c : Cel) : spcC c = true ↔ (c = (3, 1, lvlN) ∨ c = (3, 1, mrkN) ∨ c = (3, 1, cutN)) := by
  unfold spcC
  rw [decide_eq_true_eq]
  constructor
  · rintro ⟨h1, h2, h3 | h3 | h3⟩
    · exact .inl (Prod.ext h1 (Prod.ext h2 h3))
    · exact .inr (.inl (Prod.ext h1 (Prod.ext h2 h3)))
    · exact .inr (.inr (Prod.ext h1 (Prod.ext h2 h3)))
  · rintro (h | h | h) <;> rw [h] <;> exact ⟨rfl, rfl, by simp⟩
theorem fA_num {c : Cel} {k : Fo} (hok : (Fo.node c k .nil).ok) (h : calC c = true) : fA c = c.2.1 := by
  have hc := hok.1
  simp only [cellB, decide_eq_true_eq] at hc
  unfold calC at h
  rw [decide_eq_true_eq] at h
  unfold fA
  split
  · rfl
  · omega
theorem isVarT_any {w0 : World} {Bt : Nat} {c : Cel} {k : Fo} {v : Value} (hfo : FoIn w0 Bt (.node c k .nil) [v]) (w : World) :
    Calls Tryz.prog 120 #[v] w fun e w' => e = .returned (.bool (decide (c.1 = 0))) ∧ w' = w := by
  obtain ⟨v', vr, e, hn, _⟩ := hfo
  obtain ⟨rfl, rfl⟩ := List.cons.inj e
  rcases hn with ⟨h, rfl⟩ | ⟨h, rfl⟩ | ⟨h, rfl⟩ | ⟨h, b, g, vs, rfl, hcomp⟩
  · rw [decide_eq_true h]; exact nbIsVar_var _ w
  · rw [decide_eq_false (by omega)]; exact nbIsVar_num _ w
  · rw [decide_eq_false (by omega)]; exact nbIsVar_atom _ w
  · rw [decide_eq_false (by omega)]; exact nbIsVar_comp _ w
theorem arg_one {w0 : World} {Bt : Nat} {c : Cel} {k : Fo} {v : Value} (hok : (Fo.node c k .nil).ok) (hfo : FoIn w0 Bt (.node c k .nil) [v]) (h3 : c.1 = 3) (h1 : c.2.1 = 1) :
    ∃ b g vt vx, v = .iface 120 (.pointer (some ⟨b, 0, none⟩)) ∧ w0.cell? ⟨b, 1, none⟩ = some (.slice (some ⟨g, 0, none⟩) 1 1) ∧ w0.cell? ⟨g, 0, none⟩ = some (.iface vt vx) ∧ FoIn w0 Bt (.node (kid0 (c, k)).1 (kid0 (c, k)).2 .nil) [.iface vt vx] := by
  obtain ⟨v', vr, e, hn, _⟩ := hfo
  obtain ⟨rfl, rfl⟩ := List.cons.inj e
  have hcnt : k.count = 1 := by have := hok.2.2.1 h3; omega
  rcases hn with ⟨h, rfl⟩ | ⟨h, rfl⟩ | ⟨h, rfl⟩ | ⟨h, b, g, vs, rfl, hcomp⟩
  · omega
  · omega
  · omega
  · have hvl := FoIn.count k vs hcomp.2.2.2.2.2.2
    cases k with
    | nil => simp [Fo.count] at hcnt
    | node c1 k1 r =>
      have hr : r = .nil := by
        cases r with
        | nil => rfl
        | node _ _ _ => simp [Fo.count] at hcnt
      subst hr
      obtain ⟨v1, vr1, e1, hn1, e2⟩ := hcomp.2.2.2.2.2.2
      have e2' : vr1 = [] := e2
      subst e2' e1
      obtain ⟨t1, x1, rfl⟩ := hn1.iface
      refine ⟨b, g, t1, x1, rfl, hcomp.2.2.2.1, hcomp.2.2.2.2.2.1 0 (by simp), _, [], rfl, hn1, rfl⟩
set_option maxRecDepth 100000 in
set_option maxHeartbeats 1000000 in
theorem gi_any {w0 : World} {Bt : Nat} (c : Cel) (k : Fo) (v : Value) (mb : Nat) (w : World) (hok : (Fo.node c k .nil).ok) (hfo : FoIn w0 Bt (.node c k .nil) [v]) (hw : Below w0.heap.size w0 w) (hM : BuIn w mb 92 buTab) :
    Calls Tryz.prog 141 #[.map (some mb), v] w fun e w' => e = .returned (.tuple #[.int .i64 (giO c), .bool (goodG (c, k))]) ∧ Below w.heap.size w w' := by
  have HFU := fo_any c k v w hok hfo hw
  have hcb := hok.1
  simp only [cellB, decide_eq_true_eq] at hcb
  obtain ⟨vt, vx, rfl⟩ := hfo.iface
  by_cases h0 : c = (3, 1, lvlN)
  · obtain ⟨hs1, hs2⟩ := (f_is hok.2.1 hok.1 [36, 108, 101, 118, 101, 108] 1 (by simp) (by decide)).2 (by rw [h0]; rfl)
    obtain ⟨b, g, t1, x1, hv, d1, g0, hk⟩ := arg_one hok hfo (by rw [h0]) (by rw [h0])
    obtain ⟨rfl, rfl⟩ : vt = 120 ∧ vx = .pointer (some ⟨b, 0, none⟩) := by injection hv with h1 h2; exact ⟨h1, h2⟩
    have e1 : giO c = 23 := by unfold giO; rw [if_pos h0]
    have e2 : goodG (c, k) = decide ((kid0 (c, k)).1.1 = 0) := by
      unfold goodG
      have a1 : calC c = true := by rw [h0]; rfl
      have a2 : conC c = false := by
        unfold conC conB
        have hs9 : (strOfNums c.2.2).toList = [36, 108, 101, 118, 101, 108] := (str_eq hok.2.1 [36, 108, 101, 118, 101, 108]).2 (by rw [h0]; rfl)
        rw [hs9]; rfl
      have a3 : spcC c = true := (spc_iff c).2 (.inl h0)
      rw [a1, a2, a3]; rfl
    rw [hs2] at HFU
    rw [e1, e2]
    have HIV : Hid (∀ W, Calls Tryz.prog 120 #[.iface t1 x1] W fun e w' => e = .returned (.bool (decide ((kid0 (c, k)).1.1 = 0))) ∧ w' = W) := fun W => isVarT_any hk W
    generalize decide ((kid0 (c, k)).1.1 = 0) = bv at HIV ⊢
    generalize fS c = str at HFU hs1
    generalize calC c = cb at HFU
    have d1w := (hw.cell (World.block_lt_of_cell? _ _ d1)).trans d1
    have g0w := (hw.cell (World.block_lt_of_cell? _ _ g0)).trans g0
    clear hok hfo hw hM hcb hs2 hv hk e1 e2 d1 g0 h0
    go_enter Tryz.func141, Tryz.ntmps141
    go_wp2_with fail
    refine HFU.mono ?_
    rintro e w2 ⟨rfl, hb2⟩
    have HAL : Hid (Below w.heap.size w (w2.alloc (.cells #[.string str, .int .i64 1] 67))) := hb2.alloc hb2.size _
    have f0 := (HAL.out.cell (World.block_lt_of_cell? _ _ d1w)).trans d1w
    have f1 := (HAL.out.cell (World.block_lt_of_cell? _ _ g0w)).trans g0w
    have HAR := argsComp_any b g 1 (w2.alloc (.cells #[.string str, .int .i64 1] 67)) f0
    clear hb2 HFU d1w g0w
    go_wp2_with fail
    refine HAR.mono ?_
    rintro e w3 ⟨rfl, hw3⟩
    rw [hw3]
    go_wp2_with fail
    refine (HIV.out _).mono ?_
    rintro e w4 ⟨rfl, hw4⟩
    rw [hw4]
    go_wp2_with fail
    go_ret2
    exact ⟨rfl, HAL.out⟩
  by_cases h1 : c = (3, 1, mrkN)
  · obtain ⟨hs1, hs2⟩ := (f_is hok.2.1 hok.1 [36, 109, 97, 114, 107] 1 (by simp) (by decide)).2 (by rw [h1]; rfl)
    obtain ⟨b, g, t1, x1, hv, d1, g0, hk⟩ := arg_one hok hfo (by rw [h1]) (by rw [h1])
    obtain ⟨rfl, rfl⟩ : vt = 120 ∧ vx = .pointer (some ⟨b, 0, none⟩) := by injection hv with h1 h2; exact ⟨h1, h2⟩
    have e1 : giO c = 24 := by unfold giO; rw [if_neg h0]; rw [if_pos h1]
    have e2 : goodG (c, k) = decide ((kid0 (c, k)).1.1 = 0) := by
      unfold goodG
      have a1 : calC c = true := by rw [h1]; rfl
      have a2 : conC c = false := by
        unfold conC conB
        have hs9 : (strOfNums c.2.2).toList = [36, 109, 97, 114, 107] := (str_eq hok.2.1 [36, 109, 97, 114, 107]).2 (by rw [h1]; rfl)
        rw [hs9]; rfl
      have a3 : spcC c = true := (spc_iff c).2 (.inr (.inl h1))
      rw [a1, a2, a3]; rfl
    rw [hs2] at HFU
    rw [e1, e2]
    have HIV : Hid (∀ W, Calls Tryz.prog 120 #[.iface t1 x1] W fun e w' => e = .returned (.bool (decide ((kid0 (c, k)).1.1 = 0))) ∧ w' = W) := fun W => isVarT_any hk W
    generalize decide ((kid0 (c, k)).1.1 = 0) = bv at HIV ⊢
    generalize fS c = str at HFU hs1
    generalize calC c = cb at HFU
    have d1w := (hw.cell (World.block_lt_of_cell? _ _ d1)).trans d1
    have g0w := (hw.cell (World.block_lt_of_cell? _ _ g0)).trans g0
    clear hok hfo hw hM hcb hs2 hv hk e1 e2 d1 g0 h0 h1
    go_enter Tryz.func141, Tryz.ntmps141
    go_wp2_with fail
    refine HFU.mono ?_
    rintro e w2 ⟨rfl, hb2⟩
    have HAL : Hid (Below w.heap.size w (w2.alloc (.cells #[.string str, .int .i64 1] 67))) := hb2.alloc hb2.size _
    have f0 := (HAL.out.cell (World.block_lt_of_cell? _ _ d1w)).trans d1w
    have f1 := (HAL.out.cell (World.block_lt_of_cell? _ _ g0w)).trans g0w
    have HAR := argsComp_any b g 1 (w2.alloc (.cells #[.string str, .int .i64 1] 67)) f0
    clear hb2 HFU d1w g0w
    go_wp2_with fail
    refine HAR.mono ?_
    rintro e w3 ⟨rfl, hw3⟩
    rw [hw3]
    go_wp2_with fail
    refine (HIV.out _).mono ?_
    rintro e w4 ⟨rfl, hw4⟩
    rw [hw4]
    go_wp2_with fail
    go_ret2
    exact ⟨rfl, HAL.out⟩
  by_cases h2 : c = (3, 1, cutN)
  · obtain ⟨hs1, hs2⟩ := (f_is hok.2.1 hok.1 [36, 99, 117, 116] 1 (by simp) (by decide)).2 (by rw [h2]; rfl)
    obtain ⟨b, g, t1, x1, hv, d1, g0, hk⟩ := arg_one hok hfo (by rw [h2]) (by rw [h2])
    obtain ⟨rfl, rfl⟩ : vt = 120 ∧ vx = .pointer (some ⟨b, 0, none⟩) := by injection hv with h1 h2; exact ⟨h1, h2⟩
    have e1 : giO c = 25 := by unfold giO; rw [if_neg h0]; rw [if_neg h1]; rw [if_pos h2]
    have e2 : goodG (c, k) = decide ((kid0 (c, k)).1.1 = 0) := by
      unfold goodG
      have a1 : calC c = true := by rw [h2]; rfl
      have a2 : conC c = false := by
        unfold conC conB
        have hs9 : (strOfNums c.2.2).toList = [36, 99, 117, 116] := (str_eq hok.2.1 [36, 99, 117, 116]).2 (by rw [h2]; rfl)
        rw [hs9]; rfl
      have a3 : spcC c = true := (spc_iff c).2 (.inr (.inr h2))
      rw [a1, a2, a3]; rfl
    rw [hs2] at HFU
    rw [e1, e2]
    have HIV : Hid (∀ W, Calls Tryz.prog 120 #[.iface t1 x1] W fun e w' => e = .returned (.bool (decide ((kid0 (c, k)).1.1 = 0))) ∧ w' = W) := fun W => isVarT_any hk W
    generalize decide ((kid0 (c, k)).1.1 = 0) = bv at HIV ⊢
    generalize fS c = str at HFU hs1
    generalize calC c = cb at HFU
    have d1w := (hw.cell (World.block_lt_of_cell? _ _ d1)).trans d1
    have g0w := (hw.cell (World.block_lt_of_cell? _ _ g0)).trans g0
    clear hok hfo hw hM hcb hs2 hv hk e1 e2 d1 g0 h0 h1 h2
    go_enter Tryz.func141, Tryz.ntmps141
    go_wp2_with fail
    refine HFU.mono ?_
    rintro e w2 ⟨rfl, hb2⟩
    have HAL : Hid (Below w.heap.size w (w2.alloc (.cells #[.string str, .int .i64 1] 67))) := hb2.alloc hb2.size _
    have f0 := (HAL.out.cell (World.block_lt_of_cell? _ _ d1w)).trans d1w
    have f1 := (HAL.out.cell (World.block_lt_of_cell? _ _ g0w)).trans g0w
    have HAR := argsComp_any b g 1 (w2.alloc (.cells #[.string str, .int .i64 1] 67)) f0
    clear hb2 HFU d1w g0w
    go_wp2_with fail
    refine HAR.mono ?_
    rintro e w3 ⟨rfl, hw3⟩
    rw [hw3]
    go_wp2_with fail
    refine (HIV.out _).mono ?_
    rintro e w4 ⟨rfl, hw4⟩
    rw [hw4]
    go_wp2_with fail
    go_ret2
    exact ⟨rfl, HAL.out⟩
  have hsp : spcC c = false := by
    cases hh : spcC c with
    | false => rfl
    | true => rcases (spc_iff c).1 hh with h | h | h; exact absurd h h0; exact absurd h h1; exact absurd h h2
  have eO : giO c = if calC c = true ∧ isBu (unU c.2.2) (fA c) = true then 22 else 19 := by unfold giO; rw [if_neg h0, if_neg h1, if_neg h2]
  have eG : goodG (c, k) = (calC c && !conC c) := by unfold goodG; rw [hsp]; simp
  have HN : Hid (fA c = 1 → ¬ (fS c).toList = [36, 108, 101, 118, 101, 108] ∧ ¬ (fS c).toList = [36, 109, 97, 114, 107] ∧ ¬ (fS c).toList = [36, 99, 117, 116]) := fun ha =>
    ⟨fun h => h0 ((f_is hok.2.1 hok.1 _ 1 (by simp) (by decide)).1 ⟨h, ha⟩), fun h => h1 ((f_is hok.2.1 hok.1 _ 1 (by simp) (by decide)).1 ⟨h, ha⟩), fun h => h2 ((f_is hok.2.1 hok.1 _ 1 (by simp) (by decide)).1 ⟨h, ha⟩)⟩
  have hoN : okN (fS c, fA c) := by
    have hlen : c.2.2.length ≤ 100 := by omega
    refine ⟨?_, ?_⟩
    · show (fS c).size ≤ 2000000
      unfold fS; split
      · rw [strOfNums_size]; omega
      · decide
    · have h9 : 0 ≤ fA c ∧ fA c ≤ 1000000 := by unfold fA; split <;> omega
      show (Lit.int .i64 (fA c)).wf = true
      have m1 : IntKind.i64.min = -9223372036854775808 := rfl
      have m2 : IntKind.i64.max = 9223372036854775807 := rfl
      simp only [Lit.wf, Bool.and_eq_true, decide_eq_true_eq]
      omega
  have hfab : 0 ≤ fA c ∧ fA c ≤ 1000000 := by unfold fA; split <;> omega
  cases hcal : calC c with
  | false =>
    have eO2 : giO c = 19 := by rw [eO, if_neg (by rw [hcal]; simp)]
    rw [eO2, eG, hcal]
    rw [hcal] at HFU
    obtain ⟨str, es⟩ : ∃ s, s = fS c := ⟨_, rfl⟩
    obtain ⟨ar, ea⟩ : ∃ a, a = fA c := ⟨_, rfl⟩
    rw [← es, ← ea] at HFU HN
    rw [← ea] at hfab
    clear hok hfo hw hM hcb hsp eO eG hoN hcal eO2 es ea h0 h1 h2
    by_cases ha : ar = 1
    · obtain ⟨x1, x2, x3⟩ := HN.out ha
      subst ha
      go_enter Tryz.func141, Tryz.ntmps141
      go_wp2_with fail
      refine HFU.mono ?_
      rintro e w2 ⟨rfl, hb2⟩
      have HAL : Hid (Below w.heap.size w (w2.alloc (.cells #[.string str, .int .i64 1] 67))) := hb2.alloc hb2.size _
      clear hb2 HFU
      go_wp2_with fail
      go_ret2
      exact ⟨rfl, HAL.out⟩
    · go_enter Tryz.func141, Tryz.ntmps141
      go_wp2_with fail
      refine HFU.mono ?_
      rintro e w2 ⟨rfl, hb2⟩
      have HAL : Hid (Below w.heap.size w (w2.alloc (.cells #[.string str, .int .i64 ar] 67))) := hb2.alloc hb2.size _
      clear hb2 HFU
      go_wp2_with fail
      go_ret2
      exact ⟨rfl, HAL.out⟩
  | true =>
    have hfs : fS c = strOfNums c.2.2 := by unfold fS; rw [if_pos (by unfold calC at hcal; simpa using hcal)]
    have hfa := fA_num hok hcal
    have hbt : (buTab (fS c, fA c)).isSome = isBu (unU c.2.2) (fA c) := by rw [hfs, str_unU, buTab_some]
    have HCN : Hid (∀ W, Calls Tryz.prog 179 #[.agg #[.string (fS c), .int .i64 (fA c)]] W fun e w' => e = .returned (.bool (conC c)) ∧ Below W.heap.size W w') := fun W => by
      have h9 := isConstruct_any (fS c) (fA c) W
      have e9 : conB (fS c) (fA c) = conC c := by unfold conC; rw [hfs, hfa]
      rw [e9] at h9
      exact h9
    have HGT : Hid (∀ W, Below w.heap.size w W → (Instr.lookup 51 (.map (some mb)) (.agg #[.string (fS c), .int .i64 (fA c)]) false).run Tryz.prog W = .ok (match buTab (fS c, fA c) with | none => .nilFunc | some K => .func (.func K) #[] #[]) W) := fun W hW => (hM.below hW).get (fS c, fA c) hoN
    rw [hcal] at HFU
    have eG2 : goodG (c, k) = !conC c := by rw [eG, hcal]; simp
    cases hbu : buTab (fS c, fA c) with
    | some K =>
      have hb1 : isBu (unU c.2.2) (fA c) = true := by rw [← hbt, hbu]; rfl
      have eO2 : giO c = 22 := by rw [eO, if_pos ⟨hcal, hb1⟩]
      have hcf : conC c = false := by unfold conC; rw [← hfa]; exact bu_con hb1
      rw [eO2, eG2, hcf]
      rw [hbu] at HGT
      obtain ⟨str, es⟩ : ∃ s, s = fS c := ⟨_, rfl⟩
      obtain ⟨ar, ea⟩ : ∃ a, a = fA c := ⟨_, rfl⟩
      rw [← es, ← ea] at HFU HN HGT
      rw [← ea] at hfab
      have nq := neqF_some K
      clear hok hfo hw hM hcb hsp eO eG hoN hcal eO2 es ea h0 h1 h2 hfs hfa hbt HCN eG2 hbu hb1 hcf
      by_cases ha : ar = 1
      · obtain ⟨x1, x2, x3⟩ := HN.out ha
        subst ha
        go_enter Tryz.func141, Tryz.ntmps141
        go_wp2_with fail
        refine HFU.mono ?_
        rintro e w2 ⟨rfl, hb2⟩
        have HAL : Hid (Below w.heap.size w (w2.alloc (.cells #[.string str, .int .i64 1] 67))) := hb2.alloc hb2.size _
        have lk := HGT.out _ HAL.out
        clear hb2 HFU
        go_wp2_with fail
        go_ret2
        exact ⟨rfl, HAL.out⟩
      · go_enter Tryz.func141, Tryz.ntmps141
        go_wp2_with fail
        refine HFU.mono ?_
        rintro e w2 ⟨rfl, hb2⟩
        have HAL : Hid (Below w.heap.size w (w2.alloc (.cells #[.string str, .int .i64 ar] 67))) := hb2.alloc hb2.size _
        have lk := HGT.out _ HAL.out
        clear hb2 HFU
        go_wp2_with fail
        go_ret2
        exact ⟨rfl, HAL.out⟩
    | none =>
      have hb1 : isBu (unU c.2.2) (fA c) = false := by rw [← hbt, hbu]; rfl
      have eO2 : giO c = 19 := by rw [eO, if_neg (fun h => by rw [hb1] at h; simp at h)]
      rw [eO2, eG2]
      rw [hbu] at HGT
      obtain ⟨str, es⟩ : ∃ s, s = fS c := ⟨_, rfl⟩
      obtain ⟨ar, ea⟩ : ∃ a, a = fA c := ⟨_, rfl⟩
      rw [← es, ← ea] at HFU HN HGT HCN
      rw [← ea] at hfab
      have nq := neqF_none
      generalize conC c = cc at HCN ⊢
      clear hok hfo hw hM hcb hsp eO eG hoN hcal eO2 es ea h0 h1 h2 hfs hfa hbt eG2 hbu hb1
      by_cases ha : ar = 1
      · obtain ⟨x1, x2, x3⟩ := HN.out ha
        subst ha
        go_enter Tryz.func141, Tryz.ntmps141
        go_wp2_with fail
        refine HFU.mono ?_
        rintro e w2 ⟨rfl, hb2⟩
        have HAL : Hid (Below w.heap.size w (w2.alloc (.cells #[.string str, .int .i64 1] 67))) := hb2.alloc hb2.size _
        have lk := HGT.out _ HAL.out
        clear hb2 HFU
        go_wp2_with fail
        refine (HCN.out _).mono ?_
        rintro e w3 ⟨rfl, hb3⟩
        have HB3 : Hid (Below w.heap.size w w3) := Below.on HAL.out hb3
        clear hb3
        go_wp2_with fail
        go_ret2
        exact ⟨rfl, HB3.out⟩
      · go_enter Tryz.func141, Tryz.ntmps141
        go_wp2_with fail
        refine HFU.mono ?_
        rintro e w2 ⟨rfl, hb2⟩
        have HAL : Hid (Below w.heap.size w (w2.alloc (.cells #[.string str, .int .i64 ar] 67))) := hb2.alloc hb2.size _
        have lk := HGT.out _ HAL.out
        clear hb2 HFU
        go_wp2_with fail
        refine (HCN.out _).mono ?_
        rintro e w3 ⟨rfl, hb3⟩
        have HB3 : Hid (Below w.heap.size w w3) := Below.on HAL.out hb3
        clear hb3
        go_wp2_with fail
        go_ret2
        exact ⟨rfl, HB3.out⟩
end Go.Proofs.YtpigjapbhbdhbaaGreatDoor

namespace Go.Proofs.YtpigjapbhbdhbaaGreatDoor
open Go Go.RowKit
set_option linter.unusedVariables false
theorem infoIntN : (Tryz.prog.info? 3).map (fun i => (i.zero, i.size, i.bytes)) = some (some (.int .i64 0), 1, 8) := by kernel_rfl
theorem rowsN {w : World} {B B' s s' n n' : Nat} {e e' : TypeId} {v v' : Value} {xs xs' : List Value} (h : w.ownsRow B e s v n xs) (h' : w.ownsRow B' e' s' v' n' xs') (hne : e ≠ e') : v.ownBlock = none ∨ v.ownBlock ≠ v'.ownBlock := by
  rcases h.2 with ⟨rfl, _⟩ | ⟨g, cap, cur, rfl, _, hh, _⟩
  · exact .inl rfl
  · right
    intro e0
    rcases h'.2 with ⟨rfl, _⟩ | ⟨g', cap', cur', rfl, _, hh', _⟩
    · cases e0
    · cases e0
      rw [hh] at hh'
      simp only [Option.some.injEq, Obj.cells.injEq] at hh'
      exact hne hh'.2.1
theorem new_one (w : World) (u : Value) (t : TypeId) : ∀ j x, [u][j]? = some x → (w.alloc (.cells #[u] t)).cell? ((⟨w.heap.size, 0, none⟩ : Addr).add j) = some x := fun j x hx => by
  match j, hx with
  | 0, hx => simp at hx; rw [← hx]; simp [Addr.add, World.cell?_alloc_new]
  | j + 1, hx => simp at hx
theorem take_next {α : Type} (l : List α) (j : Nat) (h : j < l.length) : l.take (j + 1) = l.take j ++ [l[j]] := by
  rw [List.take_add_one, List.getElem?_eq_getElem h]; rfl
theorem app_str (w : World) {ops : Array Oper} {rest : List Oper} {o : Oper} {a : Act} {Q : Exit → Act → World → Prop} (hgd : o.guard = none) (s x : Operand)
    (ho : o.op = .call { callee := .builtin .append, args := #[s, x], argTypes := #[207, 207] }) (B : Nat) (p : Option Addr) (n c : Nat) (vs : List Value) (z : ByteArray)
    (hs : a.eval s = .slice p n c) (hown : w.ownsRow B 9 1 (.slice p n c) n vs) (hx : a.eval x = .slice (some ⟨w.heap.size, 0, none⟩) 1 1) (hlen : n + 1 ≤ 1000000) (hbase : B ≤ w.heap.size)
    (h : ∀ g cap w', w'.ownsRow B 9 1 (.slice (some ⟨g, 0, none⟩) (n + 1) cap) (n + 1) (vs ++ [.string z]) → (w.alloc (.cells #[.string z] 9)).grownBy w' (Value.ownBlock (.slice p n c)) → (Value.ownBlock (.slice p n c) = some g ∨ w.heap.size < g) → wpList Tryz.prog ops Q rest (a.put o.dst (.slice (some ⟨g, 0, none⟩) (n + 1) cap)) w') : wpList Tryz.prog ops Q (o :: rest) a (w.alloc (.cells #[.string z] 9)) := by
  obtain ⟨i0, hi, hz0, hz1, hz2⟩ := info_parts infoStr
  refine wpList_append_lies _ hgd s x 207 ho B 9 i0 (.string ⟨#[]⟩) 1 16 Tryz.underlying207 hi hz0 hz1 hz2 rfl (by decide) (.slice p n c) n vs hs (hown.alloc _) ⟨w.heap.size, 0, none⟩ 1 1 [.string z] hx rfl (new_one _ _ _) (fun u hu => by simp at hu; rw [hu]; rfl) (by decide) (by unfold maxLen; omega) (by omega) (by simp; omega) _ rfl ?_
  intro g cap w' h1 h2 h3 h4
  exact h g cap w' h1 h2 (h3.imp id fun e => by rw [e]; simp)
theorem app_num (w : World) {ops : Array Oper} {rest : List Oper} {o : Oper} {a : Act} {Q : Exit → Act → World → Prop} (hgd : o.guard = none) (s x : Operand)
    (ho : o.op = .call { callee := .builtin .append, args := #[s, x], argTypes := #[24, 24] }) (B : Nat) (p : Option Addr) (n c : Nat) (vs : List Value) (z : Int)
    (hs : a.eval s = .slice p n c) (hown : w.ownsRow B 3 1 (.slice p n c) n vs) (hx : a.eval x = .slice (some ⟨w.heap.size, 0, none⟩) 1 1) (hlen : n + 1 ≤ 1000000) (hbase : B ≤ w.heap.size)
    (h : ∀ g cap w', w'.ownsRow B 3 1 (.slice (some ⟨g, 0, none⟩) (n + 1) cap) (n + 1) (vs ++ [.int .i64 z]) → (w.alloc (.cells #[.int .i64 z] 3)).grownBy w' (Value.ownBlock (.slice p n c)) → wpList Tryz.prog ops Q rest (a.put o.dst (.slice (some ⟨g, 0, none⟩) (n + 1) cap)) w') : wpList Tryz.prog ops Q (o :: rest) a (w.alloc (.cells #[.int .i64 z] 3)) := by
  obtain ⟨i0, hi, hz0, hz1, hz2⟩ := info_parts infoIntN
  refine wpList_append_lies _ hgd s x 24 ho B 3 i0 (.int .i64 0) 1 8 Tryz.underlying24 hi hz0 hz1 hz2 rfl (by decide) (.slice p n c) n vs hs (hown.alloc _) ⟨w.heap.size, 0, none⟩ 1 1 [.int .i64 z] hx rfl (new_one _ _ _) (fun u hu => by simp at hu; rw [hu]; rfl) (by decide) (by unfold maxLen; omega) (by omega) (by simp; omega) _ rfl ?_
  intro g cap w' h1 h2 h3 h4
  exact h g cap w' h1 h2
structure TbS (B : Nat) (W : World) (p1 p2 : Option Addr) (n c1 c2 : Nat) (L : List (List UInt8 × Int)) : Prop where
  len : n = L.length
  nam : W.ownsRow B 9 1 (.slice p1 n c1) n (L.map fun x => strV x.1)
  ari : W.ownsRow B 3 1 (.slice p2 n c2) n (L.map fun x => .int .i64 x.2)
theorem kept_none {w w' : World} {B s n : Nat} {e : TypeId} {v : Value} {xs : List Value} (h : w.ownsRow B e s v n xs) (hb : Below w.heap.size w w') : w'.ownsRow B e s v n xs :=
  h.kept (row := none) ⟨hb.os, hb.tape, hb.output, hb.size, fun k hk _ => hb.block k hk⟩ (by cases v.ownBlock <;> simp)
theorem TbS.below {B : Nat} {W W' : World} {p1 p2 : Option Addr} {n c1 c2 : Nat} {L : List (List UInt8 × Int)} (h : TbS B W p1 p2 n c1 c2 L) (hb : Below W.heap.size W W') : TbS B W' p1 p2 n c1 c2 L := ⟨h.len, kept_none h.nam hb, kept_none h.ari hb⟩
def TabOut (w : World) (e : Ending) (w' : World) : Prop := ∃ p1 p2 n c1 c2, e = .returned (.tuple #[.slice p1 n c1, .slice p2 n c2]) ∧ n = 45 ∧ (∃ B, TbS B w' p1 p2 n c1 c2 (bTab 4)) ∧ Below w.heap.size w w'
def rowsV : List Value := bRows.map strV
theorem rows_at (w : World) (t : TypeId) (k : Nat) (hk : k < 4) : (w.alloc (.cells rowsV.toArray t)).cell? ⟨w.heap.size, k, none⟩ = some (strV (bRow k)) := by
  rw [World.cell?_alloc_new]
  match k, hk with
  | 0, _ => rfl
  | 1, _ => rfl
  | 2, _ => rfl
  | 3, _ => rfl
set_option maxRecDepth 100000 in
set_option maxHeartbeats 4000000 in
theorem l7table_any (w : World) : Calls Tryz.prog 181 #[] w (TabOut w) := by
  obtain ⟨wA, eA⟩ : ∃ wA, wA = w.alloc (.cells rowsV.toArray 9) := ⟨_, rfl⟩
  have HD : Hid (∀ k, k < 4 → wA.cell? ⟨w.heap.size, k, none⟩ = some (strV (bRow k))) := fun k hk => by rw [eA]; exact rows_at w _ k hk
  have HBA : Hid (Below w.heap.size w wA) := by rw [eA]; exact (Below.refl _ _).alloc (Nat.le_refl _) _
  have HLEN : Hid (∀ k, k < 4 → (bRow k).length ≤ 400 ∧ (wd [] (bRow k)).length ≤ 45 ∧ (bTab k).length + (wd [] (bRow k)).length ≤ 45) := fun k hk => by
    have := List.all_eq_true.1 bTab_len.2 k (List.mem_range.2 hk)
    simpa using this
  go_enter Tryz.func181, Tryz.ntmps181
  go_wp2_with fail
  have eA' : wA = w.alloc (Obj.cells #[.string ⟨#[116, 114, 117, 101, 32, 102, 97, 105, 108, 32, 102, 97, 108, 115, 101, 32, 110, 108]⟩, .string ⟨#[118, 97, 114, 32, 110, 111, 110, 118, 97, 114, 32, 97, 116, 111, 109, 32, 105, 110, 116, 101, 103, 101, 114, 32, 97, 116, 111, 109, 105, 99, 32, 99, 111, 109, 112, 111, 117, 110, 100, 32, 99, 97, 108, 108, 97, 98, 108, 101, 32, 105, 115, 95, 108, 105, 115, 116, 32, 103, 114, 111, 117, 110, 100, 32, 119, 114, 105, 116, 101, 32, 119, 114, 105, 116, 101, 113, 32, 112, 114, 105, 110, 116, 32, 116, 97, 98]⟩, .string ⟨#[61, 32, 92, 61, 32, 61, 61, 32, 92, 61, 61, 32, 64, 60, 32, 64, 61, 60, 32, 64, 62, 32, 64, 62, 61, 32, 105, 115, 32, 61, 58, 61, 32, 61, 92, 61, 32, 60, 32, 61, 60, 32, 62, 32, 62, 61, 32, 61, 46, 46, 32, 99, 111, 112, 121, 95, 116, 101, 114, 109, 32, 108, 101, 110, 103, 116, 104, 32, 97, 116, 111, 109, 95, 108, 101, 110, 103, 116, 104, 32, 97, 116, 111, 109, 95, 99, 111, 100, 101, 115, 32, 97, 116, 111, 109, 95, 99, 104, 97, 114, 115, 32, 99, 104, 97, 114, 95, 99, 111, 100, 101, 32, 110, 117, 109, 98, 101, 114, 95, 99, 111, 100, 101, 115, 32, 109, 115, 111, 114, 116, 32, 115, 111, 114, 116]⟩, .string ⟨#[99, 111, 109, 112, 97, 114, 101, 32, 102, 117, 110, 99, 116, 111, 114, 32, 97, 114, 103]⟩] 9) := by rw [eA]; rfl
  rw [← eA']
  clear eA eA'
  go_loopw [3, 4, 5] (fun s a i wr => ∃ (k n c1 c2 : Nat) (p1 p2 : Option Addr), k ≤ 4 ∧ n ≤ 45 ∧ s = .slice p1 n c1 ∧ a = .slice p2 n c2 ∧ i = .int .i64 k ∧ Hid (TbS wA.heap.size wr p1 p2 n c1 c2 (bTab k)) ∧ Hid (Below wA.heap.size wA wr)) (fun _ _ i _ => 4 - (intOf i).toNat)
  case atStart => exact ⟨0, 0, 0, 0, none, none, by omega, by omega, rfl, rfl, rfl, ⟨rfl, World.ownsRow_nil _ _ _ _, World.ownsRow_nil _ _ _ _⟩, Below.refl _ _⟩
  case round =>
    obtain ⟨k, n, c1, c2, p1, p2, hk, hn, rfl, rfl, rfl, HT, HB⟩ := hrel
    by_cases hlt : k < 4
    · obtain ⟨hl1, hl2, hl3⟩ := HLEN.out k hlt
      have d0 := (HB.out.cell (World.block_lt_of_cell? _ _ (HD.out k hlt))).trans (HD.out k hlt)
      have HW := l3words_any (bRow k) wr (by omega)
      obtain ⟨ws, ews⟩ : ∃ ws, ws = wd [] (bRow k) := ⟨_, rfl⟩
      have HEW : Hid (ws = wd [] (bRow k)) := ews
      rw [← ews] at HW hl2 hl3
      obtain ⟨sr, esr⟩ : ∃ s, s = bOf (bRow k) := ⟨_, rfl⟩
      simp only [strV] at d0
      rw [← esr] at d0 HW
      clear esr ews hl1
      go_wp2_with fail
      refine HW.mono ?_
      rintro e w2 ⟨pw, nw, cw, rfl, hnw, hrow2, hb2⟩
      have HNW : Hid (nw = ws.length) := hnw
      have hnw45 : nw ≤ 45 := by omega
      have HT2 : Hid (TbS wA.heap.size w2 p1 p2 n c1 c2 (bTab k)) := HT.out.below hb2
      have HB2 : Hid (Below wA.heap.size wA w2) := Below.on HB.out hb2
      obtain ⟨Bw, eBw⟩ : ∃ B, B = wr.heap.size := ⟨_, rfl⟩
      have HR2 : Hid (w2.ownsRow Bw 9 1 (.slice pw nw cw) nw (ws.map strV)) := by rw [eBw]; exact hrow2
      have HAP : Hid (Value.ownBlock (.slice p1 n c1) = none ∨ Value.ownBlock (.slice p1 n c1) ≠ Value.ownBlock (.slice pw nw cw)) := by
        cases h1 : Value.ownBlock (.slice p1 n c1) with
        | none => exact .inl rfl
        | some g =>
          right
          intro h2
          have h3 := (HT.out.nam.lt g h1).2
          have h4 := (hrow2.lt g h2.symm).1
          omega
      clear hrow2 hb2 hnw HW d0 eBw
      go_wp2_with fail
      go_loopw [3, 4, 7] (fun s a i wv => ∃ (j n c1 c2 : Nat) (p1 p2 : Option Addr), j ≤ nw ∧ n ≤ 45 ∧ s = .slice p1 n c1 ∧ a = .slice p2 n c2 ∧ i = .int .i64 j ∧ Hid (TbS wA.heap.size wv p1 p2 n c1 c2 (bTab k ++ (ws.take j).map fun x => (x, (k : Int)))) ∧ Hid (wv.ownsRow Bw 9 1 (.slice pw nw cw) nw (ws.map strV)) ∧ Hid (Value.ownBlock (.slice p1 n c1) = none ∨ Value.ownBlock (.slice p1 n c1) ≠ Value.ownBlock (.slice pw nw cw)) ∧ Hid (Below wA.heap.size wA wv)) (fun _ _ i _ => nw - (intOf i).toNat)
      case atStart => exact ⟨0, n, c1, c2, p1, p2, Nat.zero_le _, hn, rfl, rfl, rfl, by simpa using HT2, HR2, HAP, HB2⟩
      case round =>
        obtain ⟨j, n5, c5, d5, p5, q5, hj, hn5, rfl, rfl, rfl, HT5, HR5, HA5, HB5⟩ := hrel
        by_cases hlj : j < nw
        · obtain ⟨gw, capw, hv, _⟩ := HR5.out.form (by omega)
          simp only [Value.slice.injEq] at hv
          obtain ⟨rfl, hq0⟩ := hv
          clear hq0
          have hjw : j < ws.length := by have := HNW.out; omega
          have hcw : wr.cell? ⟨gw, j, none⟩ = some (strV ws[j]) := by
            rw [HR5.out.cellAt j (by omega)]
            simp [hjw]
          obtain ⟨sx, esx⟩ : ∃ s, s = bOf ws[j] := ⟨_, rfl⟩
          have HSX : Hid (sx = bOf ws[j]) := esx
          simp only [strV] at hcw
          rw [← esx] at hcw
          have hBv : wA.heap.size ≤ wr.heap.size := HB5.out.size
          have HBV : Hid (wA.heap.size ≤ wr.heap.size) := hBv
          have hnn : n5 + 1 ≤ 45 := by
            have h1 := HT5.out.len
            rw [h1]
            simp only [List.length_append, List.length_map, List.length_take]
            omega
          have HL5 : Hid (n5 = (bTab k ++ (ws.take j).map fun x => (x, (k : Int))).length) := HT5.out.len
          clear esx
          go_wp2_with (first
            | (at_builtin; refine app_str _ rfl _ _ rfl wA.heap.size p5 n5 c5 _ sx rfl HT5.out.nam rfl (by omega) HBV.out ?_; intro g6 cap6 w6 hrow6 hg6 hat6; have hne1 : Value.ownBlock (.slice q5 n5 d5) = none ∨ Value.ownBlock (.slice q5 n5 d5) ≠ Value.ownBlock (.slice p5 n5 c5) := rowsN HT5.out.ari HT5.out.nam (by decide); have HAR : Hid (w6.ownsRow wA.heap.size 3 1 (.slice q5 n5 d5) n5 ((bTab k ++ (ws.take j).map fun x => (x, (k : Int))).map fun x => .int .i64 x.2)) := (HT5.out.ari.alloc _).kept hg6 hne1; have HB6 : Hid (Below wA.heap.size wA w6) := (HB5.out.alloc HBV.out _).grown hg6 (by simp; have := HBV.out; omega) (fun kk hkk => (HT5.out.nam.lt kk hkk).1); have HSZ6 : Hid (wA.heap.size ≤ w6.heap.size) := HB6.out.size)
            | (at_builtin; refine app_num _ rfl _ _ rfl wA.heap.size q5 n5 d5 _ (k : Int) rfl HAR.out rfl (by omega) HSZ6.out ?_; intro g7 cap7 w7 hrow7 hg7))
          have HRW : Hid (w6.ownsRow Bw 9 1 (.slice (some ⟨gw, 0, none⟩) nw cw) nw (ws.map strV)) := (HR5.out.alloc _).kept hg6 (by
            rcases HA5.out with h | h
            · rw [h]; right; intro h2; cases h2
            · exact .inr fun h2 => h h2.symm)
          have HA6 : Hid (g6 ≠ gw) := fun e => by
            subst e
            rcases hat6 with h | h
            · rcases HA5.out with h2 | h2
              · rw [h2] at h; cases h
              · exact h2 h
            · have := World.block_lt_of_cell? _ _ hcw
              simp at this
              omega
          have HN6 : Hid (w6.ownsRow wA.heap.size 9 1 (.slice (some ⟨g6, 0, none⟩) (n5 + 1) cap6) (n5 + 1) ((bTab k ++ (ws.take (j + 1)).map fun x => (x, (k : Int))).map fun x => strV x.1)) := by
            have e : (bTab k ++ (ws.take (j + 1)).map fun x => (x, (k : Int))).map (fun x => strV x.1) = (bTab k ++ (ws.take j).map fun x => (x, (k : Int))).map (fun x => strV x.1) ++ [.string sx] := by
              rw [HSX.out, take_next ws j hjw]
              simp only [List.map_append, List.map_cons, List.map_nil, List.append_assoc, strV]
            rw [e]; exact hrow6
          have hne2 : Value.ownBlock (.slice (some ⟨g6, 0, none⟩) (n5 + 1) cap6) = none ∨ Value.ownBlock (.slice (some ⟨g6, 0, none⟩) (n5 + 1) cap6) ≠ Value.ownBlock (.slice q5 n5 d5) := rowsN HN6.out HAR.out (by decide)
          have hne3 : Value.ownBlock (.slice (some ⟨gw, 0, none⟩) nw cw) = none ∨ Value.ownBlock (.slice (some ⟨gw, 0, none⟩) nw cw) ≠ Value.ownBlock (.slice q5 n5 d5) := rowsN HRW.out HAR.out (by decide)
          have HT7 : Hid (TbS wA.heap.size w7 (some ⟨g6, 0, none⟩) (some ⟨g7, 0, none⟩) (n5 + 1) cap6 cap7 (bTab k ++ (ws.take (j + 1)).map fun x => (x, (k : Int)))) := by
            refine ⟨?_, (HN6.out.alloc _).kept hg7 hne2, ?_⟩
            · have h1 := HL5.out
              rw [h1]
              simp only [List.length_append, List.length_map, List.length_take]
              omega
            · have e : (bTab k ++ (ws.take (j + 1)).map fun x => (x, (k : Int))).map (fun x => Value.int .i64 x.2) = (bTab k ++ (ws.take j).map fun x => (x, (k : Int))).map (fun x => Value.int .i64 x.2) ++ [.int .i64 k] := by
                rw [take_next ws j hjw]
                simp only [List.map_append, List.map_cons, List.map_nil, List.append_assoc]
              rw [e]; exact hrow7
          have HR7 : Hid (w7.ownsRow Bw 9 1 (.slice (some ⟨gw, 0, none⟩) nw cw) nw (ws.map strV)) := (HRW.out.alloc _).kept hg7 hne3
          have HA7 : Hid (Value.ownBlock (.slice (some ⟨g6, 0, none⟩) (n5 + 1) cap6) = none ∨ Value.ownBlock (.slice (some ⟨g6, 0, none⟩) (n5 + 1) cap6) ≠ Value.ownBlock (.slice (some ⟨gw, 0, none⟩) nw cw)) := .inr fun h => HA6.out (by simpa [Value.ownBlock] using h)
          have HB7 : Hid (Below wA.heap.size wA w7) := (HB6.out.alloc HSZ6.out _).grown hg7 (by simp; have := HSZ6.out; omega) (fun kk hkk => (HAR.out.lt kk hkk).1)
          clear hrow7 hg7 hne2 hne3 HAR HRW HN6 HB6 HSZ6 HA6 hrow6 hg6 hat6 hne1 hcw HT5 HR5 HA5 HB5 hBv HBV
          go_wp2_with fail
          go_roundw
          case rel => exact ⟨j + 1, n5 + 1, cap6, cap7, _, _, by omega, by omega, rfl, rfl, by go_num, HT7, HR7, HA7, HB7⟩
          case measure => simp [intOf]; omega
        · obtain rfl : j = nw := by omega
          have HT6 : Hid (TbS wA.heap.size wr p5 q5 n5 c5 d5 (bTab (k + 1))) := by
            show TbS _ _ _ _ _ _ _ _
            rw [bTab_next, ← HEW.out]
            have h1 := HT5.out
            rw [HNW.out, List.take_length] at h1
            exact h1
          go_wp2_with fail
          go_roundw
          case rel => exact ⟨k + 1, n5, c5, d5, p5, q5, by omega, hn5, rfl, rfl, by go_num, HT6, HB5⟩
          case measure => simp [intOf]; omega
    · obtain rfl : k = 4 := by omega
      have HF : Hid (n = 45) := HT.out.len.trans bTab_len.1
      go_wp2_with fail
      go_ret2
      exact ⟨p1, p2, n, c1, c2, rfl, HF.out, ⟨_, HT.out⟩, HBA.out.trans (HB.out.mono HBA.out.size)⟩
end Go.Proofs.YtpigjapbhbdhbaaGreatDoor

