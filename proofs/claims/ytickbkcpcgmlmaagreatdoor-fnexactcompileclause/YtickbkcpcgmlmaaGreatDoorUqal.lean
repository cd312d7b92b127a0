/- Texts of Stk5, ClC, ClG. Own work of the verifier. -/
import Derived.Test.YtickbkcpcgmlmaaGreatDoorUqah
import Derived.Deep.LoopGhost
import Derived.Test.YtickbkcpcgmlmaaGreatDoorUqak
namespace Go.Proofs.YtickbkcpcgmlmaaGreatDoor
set_option maxRecDepth 100000
open Go Go.RowKit
set_option linter.unusedVariables false
theorem open_any (W0 : World) (Bt : Nat) (w : World) (B sb so : Nat) (p : Option Addr) (n c : Nat) (st : List TT) (x : TT) (v1 v2 : Value) (h : Stk W0 Bt w B sb so p n c st) (hW : Below W0.heap.size W0 w) (hB0 : W0.heap.size ≤ B) (hBs : B ≤ sb) (hn : n ≤ 1000000)
  (hx1 : FoIn W0 Bt x.1.fo [v1]) (hx2 : FoIn W0 Bt x.2.fo [v2]) (ho1 : x.1.ok) (ho2 : x.2.ok) :
  Calls Tryz.prog 165 #[.pointer (some ⟨sb, so, none⟩), .agg #[v1, v2]] w (OpenOut W0 Bt w B sb so (Value.ownBlock (.slice p n c)) st x) := by
 by_cases h3 : x.1.1.1 = 3 ∧ x.2.1.1 = 3
 ·obtain ⟨u1, r1, e1, hn1, _⟩ := hx1
  obtain ⟨rfl, rfl⟩ := List.cons.inj e1; obtain ⟨u2, r2, e2, hn2, _⟩ := hx2; obtain ⟨rfl, rfl⟩ := List.cons.inj e2
  have comp : ∀ {c : Cel} {k : Fo} {v : Value}, NodeIn W0 Bt c (fun kv => FoIn W0 Bt k kv) v → c.1 = 3 → ∃ b g vs, v = .iface 156 (.pointer (some ⟨b, 0, none⟩)) ∧ CompAt W0 Bt c.2.2 k b g vs := fun {c k v} hn h => by
   rcases hn with ⟨e, _⟩ | ⟨e, _⟩ | ⟨e, _⟩ | ⟨_, b, g, vs, hv, hc⟩
   ·omega
   ·omega
   ·omega
   ·exact ⟨b, g, vs, hv, hc⟩
  obtain ⟨b1, g1, vs1, rfl, hc1⟩ := comp hn1 h3.1; obtain ⟨b2, g2, vs2, rfl, hc2⟩ := comp hn2 h3.2; exact callsIn_wide.1 (openComp_wide W0 Bt w B sb so p n c st x b1 g1 b2 g2 vs1 vs2 h hW hB0 hBs hn hc1 hc2 ho1 ho2 h3.1 h3.2)
 ·exact openLeaf_any W0 Bt w B sb so p n c st x v1 v2 h hx1 hx2 ho1 ho2 h3
theorem Stk.made {W0 : World} {Bt : Nat} (w : World) (x : TT) (v1 v2 : Value) (t : TypeId) (h1 : FoIn W0 Bt x.1.fo [v1]) (h2 : FoIn W0 Bt x.2.fo [v2]) :
  Stk W0 Bt ((w.alloc (.cells #[v1, v2] 160)).alloc (.cells #[.slice (some ⟨w.heap.size, 0, none⟩) 1 1] t)) w.heap.size (w.heap.size + 1) 0 (some ⟨w.heap.size, 0, none⟩) 1 1 [x] := by
 have hb := heap_alloc_new (w.alloc (.cells #[v1, v2] 160)) (.cells #[.slice (some ⟨w.heap.size, 0, none⟩) 1 1] t); rw [World.size_alloc] at hb; have hr : ((w.alloc (.cells #[v1, v2] 160)).alloc (.cells #[.slice (some ⟨w.heap.size, 0, none⟩) 1 1] t)).heap[w.heap.size]? = some (.cells #[v1, v2] 160) := (Below.heap_alloc _ _ _ (by simp)).trans (heap_alloc_new _ _); refine ⟨cell_of_row _ _ 0 _ _ _ hb, frozen_of_row _ _ 0 _ _ hb, rfl, ⟨[(v1, v2)], ⟨rfl, .inr ⟨w.heap.size, 1, #[v1, v2], rfl, Nat.le_refl _, hr, Nat.le_refl _, by decide, rfl, rfl⟩⟩, ⟨_, [], rfl, h1, h2, rfl⟩⟩, fun g e => by cases e; omega⟩
set_option maxHeartbeats 1000000 in
theorem isSame_any (W0 : World) (Bt : Nat) (w : World) (x : TT) (v1 v2 : Value) (hW : Below W0.heap.size W0 w) (hx1 : FoIn W0 Bt x.1.fo [v1]) (hx2 : FoIn W0 Bt x.2.fo [v2]) (ho1 : x.1.ok) (ho2 : x.2.ok) (hl : x.1.2.cells.length ≤ 10000) :
  Calls Tryz.prog 99 #[v1, v2] w fun e w' => e = .returned (.bool (eqT x)) ∧ Below w.heap.size w w' := by
 obtain ⟨t1, y1, rfl⟩ := FoIn.iface (show FoIn W0 Bt (.node x.1.1 x.1.2 .nil) [v1] from hx1); obtain ⟨t2, y2, rfl⟩ := FoIn.iface (show FoIn W0 Bt (.node x.2.1 x.2.2 .nil) [v2] from hx2); have HS : Hid _ := Stk.made w x (.iface t1 y1) (.iface t2 y2) 197 hx1 hx2
 have HB : Hid (∀ a b, Below w.heap.size w ((w.alloc a).alloc b)) := fun a b => ((Below.refl _ _).alloc (Nat.le_refl _) _).alloc (by simp) _
 have HW : Hid (Below W0.heap.size W0 w) := hW
 have HOK : Hid (x.1.ok ∧ x.2.ok) := ⟨ho1, ho2⟩
 have HE : Hid (sames [x] = eqT x) := by simp [sames, Hid]
 obtain ⟨R, eR⟩ : ∃ R, R = eqT x := ⟨_, rfl⟩
 rw [← eR] at HE ⊢; clear hW hx1 hx2 ho1 ho2 eR
 go_enter Tryz.func99, Tryz.ntmps99
 go_wp2
 go_loopg [] (load [x]) (fun k wr => ∃ (p : Option Addr) (n c : Nat) (st : List TT), wr.cell? ⟨w.heap.size + 1, 0, none⟩ = some (.slice p n c) ∧ n ≤ 100000 ∧ Hid (Stk W0 Bt wr w.heap.size (w.heap.size + 1) 0 p n c st ∧ (∀ y ∈ st, y.1.ok ∧ y.2.ok) ∧ load st = k ∧ k ≤ 20000 ∧ sames st = R ∧ Below w.heap.size w wr))
 case atStart => exact ⟨_, _, _, [x], HS.out.cell, by decide, HS.out, fun y hy => by rw [List.mem_singleton.1 hy]; exact HOK.out, rfl, by simp [load]; omega, HE.out, HB.out _ _⟩
 case round =>
  obtain ⟨p, n, c, st, hcell, hn, HR⟩ := hrel
  rcases List.eq_nil_or_concat st with rfl | ⟨st', y, rfl⟩
  ·have hn0 : n = 0 := HR.out.1.len
   subst hn0; have HF : Hid (R = true) := HR.out.2.2.2.2.1.symm
   go_wp2
   go_ret; exact ⟨ret_bool HF.out.symm, HR.out.2.2.2.2.2⟩
  ·rw [List.concat_eq_append] at HR
   have hst := HR.out.1; have hlen := hst.len
   have hn1 : n = st'.length + 1 := by rw [hlen]; simp
   have hpos : (0 : Int) < (n : Int) := by omega
   have HT := take_any W0 Bt wr w.heap.size (w.heap.size + 1) 0 p n c st' y (by omega) hst; have hoy : y.1.ok ∧ y.2.ok := HR.out.2.1 y (by simp); have HOY : Hid (y.1.ok ∧ y.2.ok) := hoy; have HBwr : Hid (w.heap.size + 1 < wr.heap.size) := World.block_lt_of_cell? _ _ hcell
   have hrl : ∀ k, Value.ownBlock (.slice p n c) = some k → w.heap.size ≤ k := fun k e => by
    obtain ⟨_, hr, _⟩ := hst.row; exact (hr.lt k e).1
   have HRL : Hid (∀ k, Value.ownBlock (.slice p n c) = some k → w.heap.size ≤ k) := hrl; have HN1 : Hid (n = st'.length + 1) := hn1; clear hst hlen hn1 hoy hrl; go_wp2_with fail; refine HT.mono ?_; rintro e w1 ⟨v1, v2, rfl, f1, f2, ⟨p', n', c', hs', hrow'⟩, hk⟩; have hB1 : Below w.heap.size w w1 := HR.out.2.2.2.2.2.trans (hk.below (by omega) (fun k e => by cases e) (by have := HBwr.out; omega)); have HO := open_any W0 Bt w1 w.heap.size (w.heap.size + 1) 0 p' n' c' st' y v1 v2 hs' (HW.out.trans (hB1.mono HW.out.size)) HW.out.size (by omega) (by have := hs'.len; have := HN1.out; omega) f1 f2 HOY.out.1 HOY.out.2
   have HRL' : Hid (∀ k, Value.ownBlock (.slice p' n' c') = some k → w.heap.size ≤ k) := by show ∀ k, _ → _; rw [hrow']; exact HRL.out
   have HB1 : Hid (Below w.heap.size w w1) := hB1; clear hs' hrow' hk hB1 HT f1 f2
   by_cases hy : y.1.1 = y.2.1
   ·have hd : decide (y.1.1 = y.2.1) = true := by simpa using hy
    unfold OpenOut at HO
    rw [hd] at HO
    have HLD : Hid (load (st' ++ opened y) < gk ∧ sames (st' ++ opened y) = R ∧ (∀ z ∈ st' ++ opened y, z.1.ok ∧ z.2.ok)) := by
     obtain ⟨_, h2, h3, _, h5, _⟩ := HR.out; refine ⟨?_, ?_, ?_⟩
     ·have := load_opened y
      rw [← h3, load_append, load_append]
      simp [load]; omega
     ·rw [sames_open _ _ hy (ok_count HOY.out.1 HOY.out.2 hy)]; exact h5
     ·intro z hz
      rcases List.mem_append.1 hz with hz | hz
      ·exact h2 z (by simp [hz])
      ·exact opened_ok HOY.out.1 HOY.out.2 z hz
    clear hd hy; go_wp2_with fail; refine HO.mono ?_; rintro e w2 ⟨rfl, ⟨p2, n2, c2, hs2, _⟩, hk2⟩; have HS2 : Hid _ := hs2; have HB2 : Hid (Below w.heap.size w w2) := HB1.out.trans (hk2.below (by omega) HRL'.out (by have := HB1.out.size; omega)); clear hk2 HO hs2; go_wp2_with fail
    go_roundg (load (st' ++ opened y))
    case measure => exact HLD.out.1
    case rel =>
     have h4 := HR.out.2.2.2.1; have h1 := HLD.out.1; exact ⟨p2, n2, c2, st' ++ opened y, HS2.out.cell, by have := HS2.out.len; have := len_load (st' ++ opened y); omega, HS2.out, HLD.out.2.2, rfl, by omega, HLD.out.2.1, HB2.out⟩
   ·have hd : decide (y.1.1 = y.2.1) = false := by simpa using hy
    unfold OpenOut at HO
    rw [hd] at HO
    have HF : Hid (R = false) := by show _ = _; rw [← HR.out.2.2.2.2.1, sames_no _ _ hy]
    clear hd hy; go_wp2_with fail; refine HO.mono ?_; rintro e w2 ⟨rfl, _, hk2⟩; have HB2 : Hid (Below w.heap.size w w2) := HB1.out.trans (hk2.below (by omega) HRL'.out (by have := HB1.out.size; omega)); clear hk2 HO; go_wp2_with fail; go_ret; exact ⟨ret_bool HF.out.symm, HB2.out⟩
def fS (c : Cel) : ByteArray := if c.1 = 2 ∨ c.1 = 3 then strOfNums c.2.2 else ⟨#[]⟩
def fA (c : Cel) : Int := if c.1 = 3 then c.2.1 else 0
theorem fo_any {w0 : World} {Bt : Nat} (c : Cel) (k : Fo) (v : Value) (w : World) (hok : (Fo.node c k .nil).ok) (hfo : FoIn w0 Bt (.node c k .nil) [v]) (hw : Below w0.heap.size w0 w) :
  Calls Tryz.prog 98 #[v] w fun e w' => e = .returned (.tuple #[.agg #[.string (fS c), .int .i64 (fA c)], .bool (calC c)]) ∧ Below w.heap.size w w' := by
 obtain ⟨v', vr, e, hn, _⟩ := hfo; obtain ⟨rfl, rfl⟩ := List.cons.inj e
 rcases hn with ⟨h, rfl⟩ | ⟨h, rfl⟩ | ⟨h, rfl⟩ | ⟨h, b, g, vs, rfl, hcomp⟩
 ·have e1 : fS c = ⟨#[]⟩ := by unfold fS; rw [if_neg (by omega)]
  have e2 : fA c = 0 := by unfold fA; rw [if_neg (by omega)]
  have e3 : calC c = false := by unfold calC; exact decide_eq_false (by omega)
  rw [e1, e2, e3]; exact nbFO_var _ w
 ·have e1 : fS c = ⟨#[]⟩ := by unfold fS; rw [if_neg (by omega)]
  have e2 : fA c = 0 := by unfold fA; rw [if_neg (by omega)]
  have e3 : calC c = false := by unfold calC; exact decide_eq_false (by omega)
  rw [e1, e2, e3]; exact nbFO_num _ w
 ·have e1 : fS c = strOfNums c.2.2 := by unfold fS; rw [if_pos (.inl h)]
  have e2 : fA c = 0 := by unfold fA; rw [if_neg (by omega)]
  have e3 : calC c = true := by unfold calC; exact decide_eq_true (.inl h)
  rw [e1, e2, e3]; exact nbFO_atom _ w
 ·have e1 : fS c = strOfNums c.2.2 := by unfold fS; rw [if_pos (.inr h)]
  have e2 : fA c = vs.length := by unfold fA; rw [if_pos h, hok.2.2.1 h, FoIn.count k vs hcomp.2.2.2.2.2.2]
  have e3 : calC c = true := by unfold calC; exact decide_eq_true (.inr h)
  rw [e1, e2, e3]; exact nbFO_comp b g vs.length _ w ((hw.cell (World.block_lt_of_cell? _ _ hcomp.2.2.1)).trans hcomp.2.2.1) ((hw.cell (World.block_lt_of_cell? _ _ hcomp.2.2.2.1)).trans hcomp.2.2.2.1)
theorem f_is {c : Cel} (hb : Byte c.2.2) (hc : cellB c.1 c.2.1 c.2.2.length = true) (l : List UInt8) (a : Int) (hl : l ≠ []) (ha : 0 < a) : ((fS c).toList = l ∧ fA c = a) ↔ c = (3, a, l.map fun u => (u.toNat : Int)) := by
 simp only [cellB, decide_eq_true_eq] at hc
 constructor
 ·rintro ⟨h1, h2⟩
  unfold fA at h2
  by_cases h3 : c.1 = 3
  ·rw [if_pos h3] at h2
   unfold fS at h1
   rw [if_pos (.inr h3)] at h1; exact Prod.ext h3 (Prod.ext h2 ((str_eq hb l).1 h1))
  ·rw [if_neg h3] at h2; omega
 ·intro h
  have h3 : c.1 = 3 := by rw [h]
  have h4 : c.2.2 = l.map fun u => (u.toNat : Int) := by rw [h]
  refine ⟨?_, ?_⟩
  ·unfold fS; rw [if_pos (.inr h3)]; exact (str_eq hb l).2 h4
  ·unfold fA; rw [if_pos h3, h]
theorem one_ifaceC (t : TypeId) (x : Value) : ∀ u ∈ [Value.iface t x], u.oneCell' = true := fun u hu => by simp at hu; rw [hu]; rfl
def CjOut (w0 : World) (Bt : Nat) (w : World) (c : Cel) (k : Fo) (e : Ending) (w' : World) : Prop :=
 ∃ p n cp vs, e = .returned (.slice p n cp) ∧ n = (conjL c k).length ∧ w'.ownsRow w.heap.size 56 1 (.slice p n cp) n vs ∧ FoIn w0 Bt (itsF (conjL c k)) vs ∧ (itsF (conjL c k)).ok ∧ Below w.heap.size w w'
set_option maxHeartbeats 2000000 in
theorem conj_any (c : Cel) (k : Fo) (v : Value) (Bt : Nat) (w0 w : World) (hok : (Fo.node c k .nil).ok) (hfo : FoIn w0 Bt (.node c k .nil) [v]) (hw : Below w0.heap.size w0 w) (hl : k.cells.length ≤ 10000) :
  Calls Tryz.prog 168 #[v] w (CjOut w0 Bt w c k) := by
 obtain ⟨vt0, vx0, rfl⟩ := hfo.iface; have HFO : Hid (FoIn w0 Bt (.node c k .nil) [.iface vt0 vx0]) := hfo; have HOK : Hid (Fo.node c k .nil).ok := hok; have HW : Hid (Below w0.heap.size w0 w) := hw; have hws := hw.size; obtain ⟨i0, hi, hz0, hz1, hz2⟩ := info_parts infoTerm; clear hfo hok hw
 go_enter Tryz.func168, Tryz.ntmps168
 go_wp2_with fail
 go_loopw [0, 3] (fun t s wr => ∃ (its : List (Cel × Fo)) (c' : Cel) (k' : Fo) (vt : TypeId) (vx : Value) (vs : List Value) (p4 : Option Addr) (n4 c4 : Nat), n4 + k'.cells.length ≤ 10000 ∧ t = .iface vt vx ∧ s = .slice p4 n4 c4 ∧ Hid (splitC c k = (its ++ (splitC c' k').1, (splitC c' k').2) ∧ n4 = its.length) ∧
  Hid (FoIn w0 Bt (.node c' k' .nil) [.iface vt vx]) ∧ Hid ((Fo.node c' k' .nil).ok ∧ (itsF its).ok) ∧ Hid (FoIn w0 Bt (itsF its) vs) ∧ Hid (wr.ownsRow w.heap.size 56 1 (.slice p4 n4 c4) n4 vs) ∧ Hid (Below w.heap.size w wr)) (fun _ s _ => 10001 - lenOf s)
 case atStart => exact ⟨[], c, k, vt0, vx0, [], none, 0, 0, by omega, rfl, rfl, ⟨rfl, rfl⟩, HFO, ⟨HOK.out, trivial⟩, rfl, World.ownsRow_nil _ _ _ _, Below.refl _ _⟩
 case round =>
  obtain ⟨its, c', k', vt, vx, vs, p4, n4, c4, hn4, rfl, rfl, HF, HT, HO, HI, HR, HB⟩ := hrel; have hwr : Below w0.heap.size w0 wr := HW.out.trans (HB.out.mono hws); have HFU := fo_any c' k' (.iface vt vx) wr HO.out.1 HT.out hwr; have HIS := f_is HO.out.1.2.1 HO.out.1.1 [44] 2 (by simp) (by decide); have hBs : w.heap.size ≤ wr.heap.size := HB.out.size
  by_cases hc : c' = comma
  ·have hcnt : k'.count = 2 := by
    have h9 := HO.out.1.2.2.1 (by rw [hc]; rfl); rw [hc] at h9; have e2 : (comma.2.1 : Int) = 2 := rfl
    omega
   obtain ⟨hs1, hs2⟩ := HIS.2 (by rw [hc]; rfl); rw [hs2] at HFU; obtain ⟨c1, k1, c2, k2, rfl⟩ := two_of hcnt; obtain ⟨v', vr, e, hnode, _⟩ := HT.out; obtain ⟨rfl, rfl⟩ := List.cons.inj e; clear e
   rcases hnode with ⟨h0, hv⟩ | ⟨h0, hv⟩ | ⟨h0, hv⟩ | ⟨h0, b, g, kv, hv, hcomp⟩
   ·rw [hc] at h0; exact absurd h0 (by decide)
   ·rw [hc] at h0; exact absurd h0 (by decide)
   ·rw [hc] at h0; exact absurd h0 (by decide)
   ·obtain ⟨rfl, rfl⟩ : vt = 156 ∧ vx = .pointer (some ⟨b, 0, none⟩) := by injection hv with h1 h2; exact ⟨h1, h2⟩
    obtain ⟨v1, vr1, e1, hn1, v2, vr2, e2, hn2, e3⟩ := hcomp.2.2.2.2.2.2; have e3' : vr2 = [] := e3; subst e3' e2; subst e1; obtain ⟨t1, x1, rfl⟩ := hn1.iface; obtain ⟨t2, x2, rfl⟩ := hn2.iface; have d1 := (hwr.cell (World.block_lt_of_cell? _ _ hcomp.2.2.2.1)).trans hcomp.2.2.2.1; have g0 := (hwr.cell (World.block_lt_of_cell? _ _ (hcomp.2.2.2.2.2.1 0 (by simp)))).trans (hcomp.2.2.2.2.2.1 0 (by simp)); have g1 := (hwr.cell (World.block_lt_of_cell? _ _ (hcomp.2.2.2.2.2.1 1 (by simp)))).trans (hcomp.2.2.2.2.2.1 1 (by simp)); simp only [List.getD_cons_zero, List.getD_cons_succ] at g0 g1
    have HG : Hid (b < w0.heap.size ∧ g < w0.heap.size) := ⟨World.block_lt_of_cell? _ _ hcomp.2.2.1, hcomp.2.2.2.2.1⟩
    have HNEXT : Hid (splitC c k = ((its ++ [(c1, k1)]) ++ (splitC c2 k2).1, (splitC c2 k2).2) ∧ FoIn w0 Bt (.node c2 k2 .nil) [.iface t2 x2] ∧ ((Fo.node c2 k2 .nil).ok ∧ (itsF (its ++ [(c1, k1)])).ok) ∧ FoIn w0 Bt (itsF (its ++ [(c1, k1)])) (vs ++ [.iface t1 x1]) ∧ (its ++ [(c1, k1)]).length = n4 + 1) := by
     have hk := HO.out.1.2.2.2.2.1; refine ⟨?_, ⟨_, [], rfl, hn2, rfl⟩, ⟨hk.2.2.2.2.2, ?_⟩, ?_, by simp [HF.out.2]⟩
     ·rw [HF.out.1, hc, splitC_comma]; simp
     ·rw [itsF_snoc, Fo.ok_cat]
      exact ⟨HO.out.2, hk.1, hk.2.1, hk.2.2.1, hk.2.2.2.1, hk.2.2.2.2.1, trivial⟩
     ·rw [itsF_snoc]
      exact FoIn.cat _ _ _ _ HI.out ⟨_, [], rfl, hn1, rfl⟩
    have hnn : n4 + 1 + k2.cells.length ≤ 10000 := by simp [Fo.cells] at hn4; omega
    have HROW : Hid (wr.ownsRow w.heap.size 56 1 (.slice p4 n4 c4) n4 vs) := HR.out; have HWS : Hid (w0.heap.size ≤ w.heap.size) := hws
    have hlt4 : n4 ≤ 10000 := by omega
    generalize fS c' = str at HFU hs1
    generalize calC c' = cb at HFU
    clear h0 hv HT HO HI HR HF hcomp hc hn1 hn2 e3 hwr hn4 HFO HOK HIS hs2; go_wp2_with fail; refine HFU.mono ?_; rintro e w2 ⟨rfl, hb2⟩; have HB2 : Hid (Below w.heap.size w w2) := Below.on HB.out hb2; have HAL : Hid (Below wr.heap.size wr (w2.alloc (.cells #[.string str, .int .i64 2] 89))) := hb2.alloc hb2.size _; have f0 := (HAL.out.cell (World.block_lt_of_cell? _ _ d1)).trans d1; have f1 := (HAL.out.cell (World.block_lt_of_cell? _ _ g0)).trans g0; have f2 := (HAL.out.cell (World.block_lt_of_cell? _ _ g1)).trans g1; have HBA : Hid (Below w.heap.size w (w2.alloc (.cells #[.string str, .int .i64 2] 89))) := Below.on HB.out HAL.out; have hBs2 : w.heap.size ≤ (w2.alloc (.cells #[.string str, .int .i64 2] 89)).heap.size := HBA.out.size; have HR2 : Hid ((w2.alloc (.cells #[.string str, .int .i64 2] 89)).ownsRow w.heap.size 56 1 (.slice p4 n4 c4) n4 vs) := row_below HROW.out HAL.out
    have HAR := argsComp_any b g 2 (w2.alloc (.cells #[.string str, .int .i64 2] 89)) f0; clear d1 g0 g1 hb2 HROW HFU HAL; go_wp2_with fail; refine HAR.mono ?_; rintro e w3 ⟨rfl, hw3⟩; rw [← hw3] at f1 f2 HBA hBs2 HR2; clear hw3 HAR f0; go_wp2_with fail
    go_region_held3 (fun W => W.cell? ⟨g, 0, none⟩ = some (.iface t1 x1) ∧ W.cell? ⟨g, 1, none⟩ = some (.iface t2 x2))
     (first | exact kk | go_keep)
     ((refine step_append_lies _ rfl _ _ 93 rfl w.heap.size 56 i0 .nilIface 1 16 Tryz.underlying93 hi hz0 hz1 hz2 rfl (by decide) (.slice p4 n4 c4) n4 vs rfl (World.ownsRow.alloc (w := w3.drew) HR2.out _) ⟨w3.heap.size, 0, none⟩ 1 1 [.iface t1 x1] rfl rfl (cell_one_new (w3.drew) _ _) (one_ifaceC t1 x1) (by decide) (by unfold maxLen; omega) (by omega) (by simp; omega) _ rfl ?_; intro g5 cap5 w5 hown5 hgrow5 hat5 hlt5; have hb5 : Below w.heap.size (w3.drew.alloc (Obj.cells #[.iface t1 x1] 56)) w5 := (Below.refl _ _).grown hgrow5 (by simp; omega) (fun k hk => (HR2.out.lt k hk).1); have kk : w5.cell? ⟨g, 0, none⟩ = some (.iface t1 x1) ∧ w5.cell? ⟨g, 1, none⟩ = some (.iface t2 x2) := ⟨(hb5.cell (show g < w.heap.size by have := HG.out; have := HWS.out; omega)).trans (Lib.cell?_alloc_marked (W := w3.drew) _ f1), (hb5.cell (show g < w.heap.size by have := HG.out; have := HWS.out; omega)).trans (Lib.cell?_alloc_marked (W := w3.drew) _ f2)⟩))
    have HO5 : Hid (w5.ownsRow w.heap.size 56 1 (.slice (some ⟨g5, 0, none⟩) (n4 + 1) cap5) (n4 + 1) (vs ++ [Value.iface t1 x1])) := hown5; have HB5 : Hid (Below w.heap.size w w5) := ((HBA.out.drew).alloc hBs2 _).trans hb5; clear hown5 hgrow5 hat5 hb5 kk f1 f2; go_wp2_with fail; go_roundw
    case rel => exact ⟨its ++ [(c1, k1)], c2, k2, t2, x2, vs ++ [Value.iface t1 x1], _, n4 + 1, cap5, hnn, rfl, rfl, ⟨HNEXT.out.1, HNEXT.out.2.2.2.2.symm⟩, HNEXT.out.2.1, HNEXT.out.2.2.1, HNEXT.out.2.2.2.1, HO5, HB5⟩
    case measure => simp [lenOf]; omega
  ·have HFIN : Hid (∀ (g5 cap5 : Nat) (W : World), W.ownsRow w.heap.size 56 1 (.slice (some ⟨g5, 0, none⟩) (n4 + 1) cap5) (n4 + 1) (vs ++ [.iface vt vx]) → Below w.heap.size w W → CjOut w0 Bt w c k (.returned (.slice (some ⟨g5, 0, none⟩) (n4 + 1) cap5)) W) := fun g5 cap5 W hr hB => by
    have h1 := HF.out.1; rw [splitC_other c' k' hc, List.append_nil] at h1
    have e9 : conjL c k = its ++ [(c', k')] := by unfold conjL; rw [h1]
    refine ⟨_, _, _, _, rfl, by rw [e9, List.length_append, HF.out.2]; rfl, hr, ?_, ?_, hB⟩
    ·rw [e9, itsF_snoc]
     exact FoIn.cat _ _ _ _ HI.out HT.out
    ·rw [e9, itsF_snoc, Fo.ok_cat]
     exact ⟨HO.out.2, HO.out.1⟩
   have HROW : Hid (wr.ownsRow w.heap.size 56 1 (.slice p4 n4 c4) n4 vs) := HR.out
   have hlt4 : n4 ≤ 10000 := by omega
   have HNE : Hid (fA c' = 2 → ¬ (fS c').toList = [44]) := fun h2 h1 => hc (HIS.1 ⟨h1, h2⟩)
   generalize fS c' = str at HFU HNE
   generalize fA c' = ar at HFU HNE
   generalize calC c' = cb at HFU
   clear HT HO HI HR HF hc hwr hn4 HFO HOK HIS
   by_cases ha : ar = 2
   ·have hns := HNE.out ha
    subst ha; go_wp2_with fail; refine HFU.mono ?_; rintro e w2 ⟨rfl, hb2⟩; have HAL : Hid (Below wr.heap.size wr (w2.alloc (.cells #[.string str, .int .i64 2] 89))) := hb2.alloc hb2.size _; have HBA : Hid (Below w.heap.size w (w2.alloc (.cells #[.string str, .int .i64 2] 89))) := Below.on HB.out HAL.out; have hBs2 : w.heap.size ≤ (w2.alloc (.cells #[.string str, .int .i64 2] 89)).heap.size := HBA.out.size; have HR2 : Hid ((w2.alloc (.cells #[.string str, .int .i64 2] 89)).ownsRow w.heap.size 56 1 (.slice p4 n4 c4) n4 vs) := row_below HROW.out HAL.out; have hb2s : w.heap.size ≤ w2.heap.size := (Below.on HB.out hb2).size; clear hb2 HFU; go_wp2_with (at_builtin; refine wpList_append_lies _ rfl _ _ 93 rfl w.heap.size 56 i0 .nilIface 1 16 Tryz.underlying93 hi hz0 hz1 hz2 rfl (by decide) (.slice p4 n4 c4) n4 vs rfl (HR2.out.alloc _) ⟨w2.heap.size + 1, 0, none⟩ 1 1 [.iface vt vx] rfl rfl (by simpa using cell_one_new (w2.alloc (.cells #[.string str, .int .i64 2] 89)) (.iface vt vx) 56) (one_ifaceC _ _) (by decide) (by unfold maxLen; omega) (by omega) (by simp; omega) _ rfl ?_; intro g5 cap5 w5 hown5 hgrow5 hat5 hlt5)
    have HB5 : Hid (Below w.heap.size w w5) := (HBA.out.alloc hBs2 _).trans ((Below.refl _ _).grown hgrow5 (by simp; omega) (fun k hk => (HR2.out.lt k hk).1)); have HO5 : Hid _ := HFIN.out g5 cap5 w5 hown5 HB5.out; clear hown5 hgrow5 hat5; go_wp2_with fail; go_ret; exact HO5.out
   ·go_wp2_with fail
    refine HFU.mono ?_; rintro e w2 ⟨rfl, hb2⟩; have HAL : Hid (Below wr.heap.size wr (w2.alloc (.cells #[.string str, .int .i64 ar] 89))) := hb2.alloc hb2.size _; have HBA : Hid (Below w.heap.size w (w2.alloc (.cells #[.string str, .int .i64 ar] 89))) := Below.on HB.out HAL.out; have hBs2 : w.heap.size ≤ (w2.alloc (.cells #[.string str, .int .i64 ar] 89)).heap.size := HBA.out.size; have HR2 : Hid ((w2.alloc (.cells #[.string str, .int .i64 ar] 89)).ownsRow w.heap.size 56 1 (.slice p4 n4 c4) n4 vs) := row_below HROW.out HAL.out; have hb2s : w.heap.size ≤ w2.heap.size := (Below.on HB.out hb2).size; clear hb2 HFU; go_wp2_with (at_builtin; refine wpList_append_lies _ rfl _ _ 93 rfl w.heap.size 56 i0 .nilIface 1 16 Tryz.underlying93 hi hz0 hz1 hz2 rfl (by decide) (.slice p4 n4 c4) n4 vs rfl (HR2.out.alloc _) ⟨w2.heap.size + 1, 0, none⟩ 1 1 [.iface vt vx] rfl rfl (by simpa using cell_one_new (w2.alloc (.cells #[.string str, .int .i64 ar] 89)) (.iface vt vx) 56) (one_ifaceC _ _) (by decide) (by unfold maxLen; omega) (by omega) (by simp; omega) _ rfl ?_; intro g5 cap5 w5 hown5 hgrow5 hat5 hlt5)
    have HB5 : Hid (Below w.heap.size w w5) := (HBA.out.alloc hBs2 _).trans ((Below.refl _ _).grown hgrow5 (by simp; omega) (fun k hk => (HR2.out.lt k hk).1)); have HO5 : Hid _ := HFIN.out g5 cap5 w5 hown5 HB5.out; clear hown5 hgrow5 hat5; go_wp2_with fail; go_ret; exact HO5.out
theorem BuIn.get {w : World} {b N : Nat} {T : Fun → Option Nat} (h : BuIn w b N T) (f : Fun) (hf : okN f) :
  (Instr.lookup 62 (.map (some b)) (.agg #[.string f.1, .int .i64 f.2]) false).run Tryz.prog w = .ok (match T f with | none => .nilFunc | some K => .func (.func K) #[] #[]) w := by
 obtain ⟨D, hown, hT⟩ := h; obtain ⟨v, ps, hrun, hv⟩ := hown.lookup lawFun Tryz.underlying62 (zeroBu w) (zd := .held .nilFunc) (zp := []) rfl (keyFunN f hf); have h1 := hT f hf; simp only [heldN, Option.some.injEq, Prod.mk.injEq] at hv; have hv := hv.1; rw [hrun]
 cases e : T f with
 | none =>
   rw [e] at h1; rw [h1.2] at hv
   cases hv
   rfl
 | some c =>
   rw [e] at h1; rw [h1.2] at hv
   cases hv
   rfl
theorem neqF_none (w : World) : (binOp .neq 257 .nilFunc .nilFunc).run Tryz.prog w = .ok (.bool false) w := by kernel_rfl
theorem neqF_some (K : Nat) (w : World) : (binOp .neq 257 (.func (.func K) #[] #[]) .nilFunc).run Tryz.prog w = .ok (.bool true) w := by kernel_rfl
def conL (l : List UInt8) (a : Int) : Bool := if l == [44] || l == [59] || l == [45, 62] || l == [102, 111, 114, 97, 108, 108] then a == 2 else if l == [92, 43] || l == [111, 110, 99, 101] then a == 1 else if l == [33] then a == 0 else false
theorem conB_L (l : List UInt8) (a : Int) : conB (bOf l) a = conL l a := by unfold conB conL; rw [bOf_list]
theorem ents_con : (bEnts.all fun p => !conL p.1 p.2) = true := by decide
theorem bu_con {xs : List Int} {a : Int} (h : isBu (unU xs) a = true) : conB (strOfNums xs) a = false := by
 rw [isBu_ents] at h; obtain ⟨p, hp, hq⟩ := List.any_eq_true.1 h; simp only [Bool.and_eq_true, decide_eq_true_eq] at hq; have h2 := List.all_eq_true.1 ents_con p hp; rw [str_unU, conB_L, ← hq.1, ← hq.2]
 simpa using h2
def giO (c : Cel) : Int := if c = (3, 1, lvlN) then 23 else if c = (3, 1, mrkN) then 24 else if c = (3, 1, cutN) then 25 else if calC c = true ∧ isBu (unU c.2.2) (fA c) = true then 22 else 19
theorem spc_iff (c : Cel) : spcC c = true ↔ (c = (3, 1, lvlN) ∨ c = (3, 1, mrkN) ∨ c = (3, 1, cutN)) := by
 unfold spcC
 rw [decide_eq_true_eq]
 constructor
 ·rintro ⟨h1, h2, h3 | h3 | h3⟩
  ·exact .inl (Prod.ext h1 (Prod.ext h2 h3))
  ·exact .inr (.inl (Prod.ext h1 (Prod.ext h2 h3)))
  ·exact .inr (.inr (Prod.ext h1 (Prod.ext h2 h3)))
 ·rintro (h | h | h) <;> rw [h] <;> exact ⟨rfl, rfl, by simp⟩
theorem fA_num {c : Cel} {k : Fo} (hok : (Fo.node c k .nil).ok) (h : calC c = true) : fA c = c.2.1 := by
 have hc := hok.1; simp only [cellB, decide_eq_true_eq] at hc
 unfold calC at h
 rw [decide_eq_true_eq] at h
 unfold fA
 split
 ·rfl
 ·omega
theorem isVarT_any {w0 : World} {Bt : Nat} {c : Cel} {k : Fo} {v : Value} (hfo : FoIn w0 Bt (.node c k .nil) [v]) (w : World) :
  Calls Tryz.prog 148 #[v] w fun e w' => e = .returned (.bool (decide (c.1 = 0))) ∧ w' = w := by
 obtain ⟨v', vr, e, hn, _⟩ := hfo; obtain ⟨rfl, rfl⟩ := List.cons.inj e
 rcases hn with ⟨h, rfl⟩ | ⟨h, rfl⟩ | ⟨h, rfl⟩ | ⟨h, b, g, vs, rfl, hcomp⟩
 ·rw [decide_eq_true h]; exact nbIsVar_var _ w
 ·rw [decide_eq_false (by omega)]; exact nbIsVar_num _ w
 ·rw [decide_eq_false (by omega)]; exact nbIsVar_atom _ w
 ·rw [decide_eq_false (by omega)]; exact nbIsVar_comp _ w
theorem arg_one {w0 : World} {Bt : Nat} {c : Cel} {k : Fo} {v : Value} (hok : (Fo.node c k .nil).ok) (hfo : FoIn w0 Bt (.node c k .nil) [v]) (h3 : c.1 = 3) (h1 : c.2.1 = 1) :
  ∃ b g vt vx, v = .iface 156 (.pointer (some ⟨b, 0, none⟩)) ∧ w0.cell? ⟨b, 1, none⟩ = some (.slice (some ⟨g, 0, none⟩) 1 1) ∧ w0.cell? ⟨g, 0, none⟩ = some (.iface vt vx) ∧ FoIn w0 Bt (.node (kid0 (c, k)).1 (kid0 (c, k)).2 .nil) [.iface vt vx] := by
 obtain ⟨v', vr, e, hn, _⟩ := hfo; obtain ⟨rfl, rfl⟩ := List.cons.inj e
 have hcnt : k.count = 1 := by have := hok.2.2.1 h3; omega
 rcases hn with ⟨h, rfl⟩ | ⟨h, rfl⟩ | ⟨h, rfl⟩ | ⟨h, b, g, vs, rfl, hcomp⟩
 ·omega
 ·omega
 ·omega
 ·have hvl := FoIn.count k vs hcomp.2.2.2.2.2.2
  cases k with
  | nil => simp [Fo.count] at hcnt
  | node c1 k1 r =>
    have hr : r = .nil := by
     cases r with
     | nil => rfl
     | node _ _ _ => simp [Fo.count] at hcnt
    subst hr; obtain ⟨v1, vr1, e1, hn1, e2⟩ := hcomp.2.2.2.2.2.2; have e2' : vr1 = [] := e2; subst e2' e1; obtain ⟨t1, x1, rfl⟩ := hn1.iface; refine ⟨b, g, t1, x1, rfl, hcomp.2.2.2.1, hcomp.2.2.2.2.2.1 0 (by simp), _, [], rfl, hn1, rfl⟩
set_option maxHeartbeats 1000000 in
theorem gi_any {w0 : World} {Bt : Nat} (c : Cel) (k : Fo) (v : Value) (mb : Nat) (w : World) (hok : (Fo.node c k .nil).ok) (hfo : FoIn w0 Bt (.node c k .nil) [v]) (hw : Below w0.heap.size w0 w) (hM : BuIn w mb 92 buTab) :
  Calls Tryz.prog 169 #[.map (some mb), v] w fun e w' => e = .returned (.tuple #[.int .i64 (giO c), .bool (goodG (c, k))]) ∧ Below w.heap.size w w' := by
 have HFU := fo_any c k v w hok hfo hw; have hcb := hok.1; simp only [cellB, decide_eq_true_eq] at hcb; obtain ⟨vt, vx, rfl⟩ := hfo.iface
 by_cases h0 : c = (3, 1, lvlN)
 ·obtain ⟨hs1, hs2⟩ := (f_is hok.2.1 hok.1 [36, 108, 101, 118, 101, 108] 1 (by simp) (by decide)).2 (by rw [h0]; rfl)
  obtain ⟨b, g, t1, x1, hv, d1, g0, hk⟩ := arg_one hok hfo (by rw [h0]) (by rw [h0])
  obtain ⟨rfl, rfl⟩ : vt = 156 ∧ vx = .pointer (some ⟨b, 0, none⟩) := by injection hv with h1 h2; exact ⟨h1, h2⟩
  have e1 : giO c = 23 := by unfold giO; rw [if_pos h0]
  have e2 : goodG (c, k) = decide ((kid0 (c, k)).1.1 = 0) := by
   unfold goodG
   have a1 : calC c = true := by rw [h0]; rfl
   have a2 : conG c = false := by
    unfold conG conB
    have hs9 : (strOfNums c.2.2).toList = [36, 108, 101, 118, 101, 108] := (str_eq hok.2.1 [36, 108, 101, 118, 101, 108]).2 (by rw [h0]; rfl); rw [hs9]; rfl
   have a3 : spcC c = true := (spc_iff c).2 (.inl h0); rw [a1, a2, a3]; rfl
  rw [hs2] at HFU; rw [e1, e2]
  have HIV : Hid (∀ W, Calls Tryz.prog 148 #[.iface t1 x1] W fun e w' => e = .returned (.bool (decide ((kid0 (c, k)).1.1 = 0))) ∧ w' = W) := fun W => isVarT_any hk W
  generalize decide ((kid0 (c, k)).1.1 = 0) = bv at HIV ⊢
  generalize fS c = str at HFU hs1
  generalize calC c = cb at HFU
  have d1w := (hw.cell (World.block_lt_of_cell? _ _ d1)).trans d1; have g0w := (hw.cell (World.block_lt_of_cell? _ _ g0)).trans g0; clear hok hfo hw hM hcb hs2 hv hk e1 e2 d1 g0 h0
  go_enter Tryz.func169, Tryz.ntmps169
  go_wp2_with fail; refine HFU.mono ?_; rintro e w2 ⟨rfl, hb2⟩; have HAL : Hid (Below w.heap.size w (w2.alloc (.cells #[.string str, .int .i64 1] 89))) := hb2.alloc hb2.size _; have f0 := (HAL.out.cell (World.block_lt_of_cell? _ _ d1w)).trans d1w; have f1 := (HAL.out.cell (World.block_lt_of_cell? _ _ g0w)).trans g0w; have HAR := argsComp_any b g 1 (w2.alloc (.cells #[.string str, .int .i64 1] 89)) f0; clear hb2 HFU d1w g0w; go_wp2_with fail; refine HAR.mono ?_; rintro e w3 ⟨rfl, hw3⟩; rw [hw3]; go_wp2_with fail; refine (HIV.out _).mono ?_; rintro e w4 ⟨rfl, hw4⟩; rw [hw4]; go_wp2_with fail
  go_ret2
  exact ⟨rfl, HAL.out⟩
 by_cases h1 : c = (3, 1, mrkN)
 ·obtain ⟨hs1, hs2⟩ := (f_is hok.2.1 hok.1 [36, 109, 97, 114, 107] 1 (by simp) (by decide)).2 (by rw [h1]; rfl)
  obtain ⟨b, g, t1, x1, hv, d1, g0, hk⟩ := arg_one hok hfo (by rw [h1]) (by rw [h1])
  obtain ⟨rfl, rfl⟩ : vt = 156 ∧ vx = .pointer (some ⟨b, 0, none⟩) := by injection hv with h1 h2; exact ⟨h1, h2⟩
  have e1 : giO c = 24 := by unfold giO; rw [if_neg h0]; rw [if_pos h1]
  have e2 : goodG (c, k) = decide ((kid0 (c, k)).1.1 = 0) := by
   unfold goodG
   have a1 : calC c = true := by rw [h1]; rfl
   have a2 : conG c = false := by
    unfold conG conB
    have hs9 : (strOfNums c.2.2).toList = [36, 109, 97, 114, 107] := (str_eq hok.2.1 [36, 109, 97, 114, 107]).2 (by rw [h1]; rfl); rw [hs9]; rfl
   have a3 : spcC c = true := (spc_iff c).2 (.inr (.inl h1)); rw [a1, a2, a3]; rfl
  rw [hs2] at HFU; rw [e1, e2]
  have HIV : Hid (∀ W, Calls Tryz.prog 148 #[.iface t1 x1] W fun e w' => e = .returned (.bool (decide ((kid0 (c, k)).1.1 = 0))) ∧ w' = W) := fun W => isVarT_any hk W
  generalize decide ((kid0 (c, k)).1.1 = 0) = bv at HIV ⊢
  generalize fS c = str at HFU hs1
  generalize calC c = cb at HFU
  have d1w := (hw.cell (World.block_lt_of_cell? _ _ d1)).trans d1; have g0w := (hw.cell (World.block_lt_of_cell? _ _ g0)).trans g0; clear hok hfo hw hM hcb hs2 hv hk e1 e2 d1 g0 h0 h1
  go_enter Tryz.func169, Tryz.ntmps169
  go_wp2_with fail; refine HFU.mono ?_; rintro e w2 ⟨rfl, hb2⟩; have HAL : Hid (Below w.heap.size w (w2.alloc (.cells #[.string str, .int .i64 1] 89))) := hb2.alloc hb2.size _; have f0 := (HAL.out.cell (World.block_lt_of_cell? _ _ d1w)).trans d1w; have f1 := (HAL.out.cell (World.block_lt_of_cell? _ _ g0w)).trans g0w; have HAR := argsComp_any b g 1 (w2.alloc (.cells #[.string str, .int .i64 1] 89)) f0; clear hb2 HFU d1w g0w; go_wp2_with fail; refine HAR.mono ?_; rintro e w3 ⟨rfl, hw3⟩; rw [hw3]; go_wp2_with fail; refine (HIV.out _).mono ?_; rintro e w4 ⟨rfl, hw4⟩; rw [hw4]; go_wp2_with fail
  go_ret2
  exact ⟨rfl, HAL.out⟩
 by_cases h2 : c = (3, 1, cutN)
 ·obtain ⟨hs1, hs2⟩ := (f_is hok.2.1 hok.1 [36, 99, 117, 116] 1 (by simp) (by decide)).2 (by rw [h2]; rfl)
  obtain ⟨b, g, t1, x1, hv, d1, g0, hk⟩ := arg_one hok hfo (by rw [h2]) (by rw [h2])
  obtain ⟨rfl, rfl⟩ : vt = 156 ∧ vx = .pointer (some ⟨b, 0, none⟩) := by injection hv with h1 h2; exact ⟨h1, h2⟩
  have e1 : giO c = 25 := by unfold giO; rw [if_neg h0]; rw [if_neg h1]; rw [if_pos h2]
  have e2 : goodG (c, k) = decide ((kid0 (c, k)).1.1 = 0) := by
   unfold goodG
   have a1 : calC c = true := by rw [h2]; rfl
   have a2 : conG c = false := by
    unfold conG conB
    have hs9 : (strOfNums c.2.2).toList = [36, 99, 117, 116] := (str_eq hok.2.1 [36, 99, 117, 116]).2 (by rw [h2]; rfl); rw [hs9]; rfl
   have a3 : spcC c = true := (spc_iff c).2 (.inr (.inr h2)); rw [a1, a2, a3]; rfl
  rw [hs2] at HFU; rw [e1, e2]
  have HIV : Hid (∀ W, Calls Tryz.prog 148 #[.iface t1 x1] W fun e w' => e = .returned (.bool (decide ((kid0 (c, k)).1.1 = 0))) ∧ w' = W) := fun W => isVarT_any hk W
  generalize decide ((kid0 (c, k)).1.1 = 0) = bv at HIV ⊢
  generalize fS c = str at HFU hs1
  generalize calC c = cb at HFU
  have d1w := (hw.cell (World.block_lt_of_cell? _ _ d1)).trans d1; have g0w := (hw.cell (World.block_lt_of_cell? _ _ g0)).trans g0; clear hok hfo hw hM hcb hs2 hv hk e1 e2 d1 g0 h0 h1 h2
  go_enter Tryz.func169, Tryz.ntmps169
  go_wp2_with fail; refine HFU.mono ?_; rintro e w2 ⟨rfl, hb2⟩; have HAL : Hid (Below w.heap.size w (w2.alloc (.cells #[.string str, .int .i64 1] 89))) := hb2.alloc hb2.size _; have f0 := (HAL.out.cell (World.block_lt_of_cell? _ _ d1w)).trans d1w; have f1 := (HAL.out.cell (World.block_lt_of_cell? _ _ g0w)).trans g0w; have HAR := argsComp_any b g 1 (w2.alloc (.cells #[.string str, .int .i64 1] 89)) f0; clear hb2 HFU d1w g0w; go_wp2_with fail; refine HAR.mono ?_; rintro e w3 ⟨rfl, hw3⟩; rw [hw3]; go_wp2_with fail; refine (HIV.out _).mono ?_; rintro e w4 ⟨rfl, hw4⟩; rw [hw4]; go_wp2_with fail
  go_ret2
  exact ⟨rfl, HAL.out⟩
 have hsp : spcC c = false := by
  cases hh : spcC c with
  | false => rfl
  | true => rcases (spc_iff c).1 hh with h | h | h; exact absurd h h0; exact absurd h h1; exact absurd h h2
 have eO : giO c = if calC c = true ∧ isBu (unU c.2.2) (fA c) = true then 22 else 19 := by unfold giO; rw [if_neg h0, if_neg h1, if_neg h2]
 have eG : goodG (c, k) = (calC c && !conG c) := by unfold goodG; rw [hsp]; simp
 have HN : Hid (fA c = 1 → ¬ (fS c).toList = [36, 108, 101, 118, 101, 108] ∧ ¬ (fS c).toList = [36, 109, 97, 114, 107] ∧ ¬ (fS c).toList = [36, 99, 117, 116]) := fun ha =>
  ⟨fun h => h0 ((f_is hok.2.1 hok.1 _ 1 (by simp) (by decide)).1 ⟨h, ha⟩), fun h => h1 ((f_is hok.2.1 hok.1 _ 1 (by simp) (by decide)).1 ⟨h, ha⟩), fun h => h2 ((f_is hok.2.1 hok.1 _ 1 (by simp) (by decide)).1 ⟨h, ha⟩)⟩
 have hoN : okN (fS c, fA c) := by
  have hlen : c.2.2.length ≤ 100 := by omega
  refine ⟨?_, ?_⟩
  ·show (fS c).size ≤ 2000000
   unfold fS; split
   ·rw [strOfNums_size]; omega
   ·decide
  ·have h9 : 0 ≤ fA c ∧ fA c ≤ 1000000 := by unfold fA; split <;> omega
   show (Lit.int .i64 (fA c)).wf = true
   have m1 : IntKind.i64.min = -9223372036854775808 := rfl; have m2 : IntKind.i64.max = 9223372036854775807 := rfl; simp only [Lit.wf, Bool.and_eq_true, decide_eq_true_eq]
   omega
 have hfab : 0 ≤ fA c ∧ fA c ≤ 1000000 := by unfold fA; split <;> omega
 cases hcal : calC c with
 | false =>
   have eO2 : giO c = 19 := by rw [eO, if_neg (by rw [hcal]; simp)]
   rw [eO2, eG, hcal]; rw [hcal] at HFU
   obtain ⟨str, es⟩ : ∃ s, s = fS c := ⟨_, rfl⟩
   obtain ⟨ar, ea⟩ : ∃ a, a = fA c := ⟨_, rfl⟩
   rw [← es, ← ea] at HFU HN; rw [← ea] at hfab; clear hok hfo hw hM hcb hsp eO eG hoN hcal eO2 es ea h0 h1 h2
   by_cases ha : ar = 1
   ·obtain ⟨x1, x2, x3⟩ := HN.out ha
    subst ha
    go_enter Tryz.func169, Tryz.ntmps169
    go_wp2_with fail; refine HFU.mono ?_; rintro e w2 ⟨rfl, hb2⟩; have HAL : Hid (Below w.heap.size w (w2.alloc (.cells #[.string str, .int .i64 1] 89))) := hb2.alloc hb2.size _; clear hb2 HFU; go_wp2_with fail
    go_ret2
    exact ⟨rfl, HAL.out⟩
   ·go_enter Tryz.func169, Tryz.ntmps169
    go_wp2_with fail; refine HFU.mono ?_; rintro e w2 ⟨rfl, hb2⟩; have HAL : Hid (Below w.heap.size w (w2.alloc (.cells #[.string str, .int .i64 ar] 89))) := hb2.alloc hb2.size _; clear hb2 HFU; go_wp2_with fail
    go_ret2
    exact ⟨rfl, HAL.out⟩
 | true =>
   have hfs : fS c = strOfNums c.2.2 := by unfold fS; rw [if_pos (by unfold calC at hcal; simpa using hcal)]
   have hfa := fA_num hok hcal
   have hbt : (buTab (fS c, fA c)).isSome = isBu (unU c.2.2) (fA c) := by rw [hfs, str_unU, buTab_some]
   have HCN : Hid (∀ W, Calls Tryz.prog 218 #[.agg #[.string (fS c), .int .i64 (fA c)]] W fun e w' => e = .returned (.bool (conG c)) ∧ Below W.heap.size W w') := fun W => by
    have h9 := isConstruct_any (fS c) (fA c) W
    have e9 : conB (fS c) (fA c) = conG c := by unfold conG; rw [hfs, hfa]
    rw [e9] at h9; exact h9
   have HGT : Hid (∀ W, Below w.heap.size w W → (Instr.lookup 62 (.map (some mb)) (.agg #[.string (fS c), .int .i64 (fA c)]) false).run Tryz.prog W = .ok (match buTab (fS c, fA c) with | none => .nilFunc | some K => .func (.func K) #[] #[]) W) := fun W hW => (hM.below hW).get (fS c, fA c) hoN
   rw [hcal] at HFU
   have eG2 : goodG (c, k) = !conG c := by rw [eG, hcal]; simp
   cases hbu : buTab (fS c, fA c) with
   | some K =>
     have hb1 : isBu (unU c.2.2) (fA c) = true := by rw [← hbt, hbu]; rfl
     have eO2 : giO c = 22 := by rw [eO, if_pos ⟨hcal, hb1⟩]
     have hcf : conG c = false := by unfold conG; rw [← hfa]; exact bu_con hb1
     rw [eO2, eG2, hcf]; rw [hbu] at HGT
     obtain ⟨str, es⟩ : ∃ s, s = fS c := ⟨_, rfl⟩
     obtain ⟨ar, ea⟩ : ∃ a, a = fA c := ⟨_, rfl⟩
     rw [← es, ← ea] at HFU HN HGT; rw [← ea] at hfab; have nq := neqF_some K; clear hok hfo hw hM hcb hsp eO eG hoN hcal eO2 es ea h0 h1 h2 hfs hfa hbt HCN eG2 hbu hb1 hcf
     by_cases ha : ar = 1
     ·obtain ⟨x1, x2, x3⟩ := HN.out ha
      subst ha
      go_enter Tryz.func169, Tryz.ntmps169
      go_wp2_with fail; refine HFU.mono ?_; rintro e w2 ⟨rfl, hb2⟩; have HAL : Hid (Below w.heap.size w (w2.alloc (.cells #[.string str, .int .i64 1] 89))) := hb2.alloc hb2.size _; have lk := HGT.out _ HAL.out; clear hb2 HFU; go_wp2_with fail
      go_ret2
      exact ⟨rfl, HAL.out⟩
     ·go_enter Tryz.func169, Tryz.ntmps169
      go_wp2_with fail; refine HFU.mono ?_; rintro e w2 ⟨rfl, hb2⟩; have HAL : Hid (Below w.heap.size w (w2.alloc (.cells #[.string str, .int .i64 ar] 89))) := hb2.alloc hb2.size _; have lk := HGT.out _ HAL.out; clear hb2 HFU; go_wp2_with fail
      go_ret2
      exact ⟨rfl, HAL.out⟩
   | none =>
     have hb1 : isBu (unU c.2.2) (fA c) = false := by rw [← hbt, hbu]; rfl
     have eO2 : giO c = 19 := by rw [eO, if_neg (fun h => by rw [hb1] at h; simp at h)]
     rw [eO2, eG2]; rw [hbu] at HGT
     obtain ⟨str, es⟩ : ∃ s, s = fS c := ⟨_, rfl⟩
     obtain ⟨ar, ea⟩ : ∃ a, a = fA c := ⟨_, rfl⟩
     rw [← es, ← ea] at HFU HN HGT HCN; rw [← ea] at hfab; have nq := neqF_none
     generalize conG c = cc at HCN ⊢
     clear hok hfo hw hM hcb hsp eO eG hoN hcal eO2 es ea h0 h1 h2 hfs hfa hbt eG2 hbu hb1
     by_cases ha : ar = 1
     ·obtain ⟨x1, x2, x3⟩ := HN.out ha
      subst ha
      go_enter Tryz.func169, Tryz.ntmps169
      go_wp2_with fail; refine HFU.mono ?_; rintro e w2 ⟨rfl, hb2⟩; have HAL : Hid (Below w.heap.size w (w2.alloc (.cells #[.string str, .int .i64 1] 89))) := hb2.alloc hb2.size _; have lk := HGT.out _ HAL.out; clear hb2 HFU; go_wp2_with fail; refine (HCN.out _).mono ?_; rintro e w3 ⟨rfl, hb3⟩; have HB3 : Hid (Below w.heap.size w w3) := Below.on HAL.out hb3; clear hb3; go_wp2_with fail
      go_ret2
      exact ⟨rfl, HB3.out⟩
     ·go_enter Tryz.func169, Tryz.ntmps169
      go_wp2_with fail; refine HFU.mono ?_; rintro e w2 ⟨rfl, hb2⟩; have HAL : Hid (Below w.heap.size w (w2.alloc (.cells #[.string str, .int .i64 ar] 89))) := hb2.alloc hb2.size _; have lk := HGT.out _ HAL.out; clear hb2 HFU; go_wp2_with fail; refine (HCN.out _).mono ?_; rintro e w3 ⟨rfl, hb3⟩; have HB3 : Hid (Below w.heap.size w w3) := Below.on HAL.out hb3; clear hb3; go_wp2_with fail
      go_ret2
      exact ⟨rfl, HB3.out⟩
end Go.Proofs.YtickbkcpcgmlmaaGreatDoor
