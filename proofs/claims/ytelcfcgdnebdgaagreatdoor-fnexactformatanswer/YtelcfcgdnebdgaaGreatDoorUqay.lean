/- Texts of SpL, WiV, WiW. Own work of the verifier. -/
import Derived.Test.YtelcfcgdnebdgaaGreatDoorUqau
import Derived.Test.YtelcfcgdnebdgaaGreatDoorUqax
namespace Go.Proofs.YtelcfcgdnebdgaaGreatDoor
open Go Go.RowKit
set_option linter.unusedVariables false
def CellsK (w0 w : World) : Prop := (∀ p v, w0.cell? p = some v → w.cell? p = some v) ∧ w0.heap.size ≤ w.heap.size
theorem noCompW_var (w : World) (x : Value) : (Instr.typeAssert (.iface 103 x) 79 108 true).run Tryz.prog w = .ok (.tuple #[.pointer none, .bool false]) w := by kernel_rfl
theorem noCompW_num (w : World) (x : Value) : (Instr.typeAssert (.iface 105 x) 79 108 true).run Tryz.prog w = .ok (.tuple #[.pointer none, .bool false]) w := by kernel_rfl
theorem noCompW_atom (w : World) (x : Value) : (Instr.typeAssert (.iface 106 x) 79 108 true).run Tryz.prog w = .ok (.tuple #[.pointer none, .bool false]) w := by kernel_rfl
theorem isCompW (w : World) (x : Value) : (Instr.typeAssert (.iface 108 x) 79 108 true).run Tryz.prog w = .ok (.tuple #[x, .bool true]) w := by kernel_rfl
theorem one_ifaceW (t : TypeId) (x : Value) : ∀ u ∈ [Value.iface t x], u.oneCell' = true := fun u hu => by simp at hu; rw [hu]; rfl
def SplitOutW (w0 : World) (Bt : Nat) (w : World) (c : Cel) (k : Fo) (e : Ending) (w' : World) : Prop :=
  ∃ p n cp v vs, e = .returned (.tuple #[.slice p n cp, v]) ∧ n = (splitF c k).1.length ∧ w'.ownsRow w.heap.size 79 1 (.slice p n cp) n vs ∧ FoIn w0 Bt (itsF (splitF c k).1) vs ∧ FoIn w0 Bt (.node (splitF c k).2.1 (splitF c k).2.2 .nil) [v] ∧
    (itsF (splitF c k).1).ok ∧ (Fo.node (splitF c k).2.1 (splitF c k).2.2 .nil).ok ∧ Below w.heap.size w w'
set_option maxRecDepth 100000 in
set_option maxHeartbeats 2000000 in
theorem splitListW_any (c : Cel) (k : Fo) (v : Value) (Bt : Nat) (w0 w : World) (hok : (Fo.node c k .nil).ok) (hfo : FoIn w0 Bt (.node c k .nil) [v]) (hw : CellsK w0 w) (hl : k.cells.length ≤ 10000) :
    Calls Tryz.prog 113 #[v] w (SplitOutW w0 Bt w c k) := by
  obtain ⟨vt0, vx0, rfl⟩ := hfo.iface
  have HFO : Hid (FoIn w0 Bt (.node c k .nil) [.iface vt0 vx0]) := hfo
  have HOK : Hid (Fo.node c k .nil).ok := hok
  have HW : Hid (CellsK w0 w) := hw
  have hws := hw.2
  clear hfo hok hw
  go_enter Tryz.func113, Tryz.ntmps113
  go_wp2_with fail
  go_loopw [0, 4] (fun t s wr => ∃ (its : List (Cel × Fo)) (c' : Cel) (k' : Fo) (vt : TypeId) (vx : Value) (vs : List Value) (p4 : Option Addr) (n4 c4 : Nat), n4 + k'.cells.length ≤ 10000 ∧ t = .iface vt vx ∧ s = .slice p4 n4 c4 ∧ Hid (splitF c k = (its ++ (splitF c' k').1, (splitF c' k').2) ∧ n4 = its.length) ∧
    Hid (FoIn w0 Bt (.node c' k' .nil) [.iface vt vx]) ∧ Hid ((Fo.node c' k' .nil).ok ∧ (itsF its).ok) ∧ Hid (FoIn w0 Bt (itsF its) vs) ∧ Hid (wr.ownsRow w.heap.size 79 1 (.slice p4 n4 c4) n4 vs) ∧ Hid (Below w.heap.size w wr)) (fun _ s _ => 10001 - lenOf s)
  case atStart => exact ⟨[], c, k, vt0, vx0, [], none, 0, 0, by omega, rfl, rfl, ⟨rfl, rfl⟩, HFO, ⟨HOK.out, trivial⟩, rfl, World.ownsRow_nil _ _ _ _, Below.refl _ _⟩
  case round =>
    obtain ⟨its, c', k', vt, vx, vs, p4, n4, c4, hn4, rfl, rfl, HF, HT, HO, HI, HR, HB⟩ := hrel
    have stop : ∀ W, Below wr.heap.size wr W → splitF c' k' = ([], (c', k')) → SplitOutW w0 Bt w c k (.returned (.tuple #[.slice p4 n4 c4, .iface vt vx])) W := fun W hW h => by
      have h1 := HF.out.1
      rw [h, List.append_nil] at h1
      refine ⟨p4, n4, c4, _, vs, rfl, by rw [h1]; exact HF.out.2, row_below HR.out hW, by rw [h1]; exact HI.out, by rw [h1]; exact HT.out, by rw [h1]; exact HO.out.2, by rw [h1]; exact HO.out.1, Below.on HB.out hW⟩
    have STOP : Hid _ := stop
    clear stop
    obtain ⟨v', vr, e, hnode, _⟩ := HT.out
    obtain ⟨rfl, rfl⟩ := List.cons.inj e
    clear e
    have leaf : ∀ c0, c'.1 = c0 → c0 ≠ 3 → splitF c' k' = ([], (c', k')) := fun c0 h1 h2 => splitF_other _ _ (fun e => h2 (by rw [← h1, e]; rfl))
    rcases hnode with ⟨h0, hv⟩ | ⟨h0, hv⟩ | ⟨h0, hv⟩ | ⟨h0, b, g, kv, hv, hcomp⟩
    · obtain ⟨rfl, rfl⟩ : vt = 103 ∧ vx = .int .i64 c'.2.1 := by injection hv with h1 h2; exact ⟨h1, h2⟩
      have HL : Hid _ := STOP.out wr (Below.refl _ _) (leaf 0 h0 (by decide))
      have n1 := noCompW_var
      obtain ⟨x, ex⟩ : ∃ x, x = Value.int .i64 c'.2.1 := ⟨_, rfl⟩
      rw [← ex] at HL ⊢
      clear leaf h0 hv ex STOP HT HI HR HO
      go_wp2_with fail
      go_ret2
      exact HL.out
    · obtain ⟨rfl, rfl⟩ : vt = 105 ∧ vx = .int .i64 c'.2.1 := by injection hv with h1 h2; exact ⟨h1, h2⟩
      have HL : Hid _ := STOP.out wr (Below.refl _ _) (leaf 1 h0 (by decide))
      have n1 := noCompW_num
      obtain ⟨x, ex⟩ : ∃ x, x = Value.int .i64 c'.2.1 := ⟨_, rfl⟩
      rw [← ex] at HL ⊢
      clear leaf h0 hv ex STOP HT HI HR HO
      go_wp2_with fail
      go_ret2
      exact HL.out
    · obtain ⟨rfl, rfl⟩ : vt = 106 ∧ vx = .string (strOfNums c'.2.2) := by injection hv with h1 h2; exact ⟨h1, h2⟩
      have HL : Hid _ := STOP.out wr (Below.refl _ _) (leaf 2 h0 (by decide))
      have n1 := noCompW_atom
      obtain ⟨x, ex⟩ : ∃ x, x = Value.string (strOfNums c'.2.2) := ⟨_, rfl⟩
      rw [← ex] at HL ⊢
      clear leaf h0 hv ex STOP HT HI HR HO
      go_wp2_with fail
      go_ret2
      exact HL.out
    · obtain ⟨rfl, rfl⟩ : vt = 108 ∧ vx = .pointer (some ⟨b, 0, none⟩) := by injection hv with h1 h2; exact ⟨h1, h2⟩
      have n1 := isCompW
      have hwr : CellsK w0 wr := ⟨fun p v h => (HB.out.cell (World.block_lt_of_cell? _ _ (HW.out.1 p v h))).trans (HW.out.1 p v h), Nat.le_trans hws HB.out.size⟩
      have hkc := FoIn.count _ _ hcomp.2.2.2.2.2.2
      have hcn := HO.out.1.2.2.1 h0
      obtain ⟨q, eq⟩ : ∃ q, q = kv.length := ⟨_, rfl⟩
      have d0 := hwr.1 _ _ hcomp.2.2.1
      have d1 := hwr.1 _ _ hcomp.2.2.2.1
      rw [← eq] at d1
      have hstr := str_eq HO.out.1.2.1 [46]
      have HSQ : Hid (c'.2.1 = q) := by show _ = _; rw [hcn, ← hkc, eq]
      obtain ⟨str, es⟩ : ∃ str, str = strOfNums c'.2.2 := ⟨_, rfl⟩
      rw [← es] at d0 hstr
      have HFU := functorW_any b g q str wr d0 d1
      have hqb : q ≤ 10000 := by have := Fo.count_le k'; omega
      by_cases hs : c'.2.2 = [46]
      · have hs' : str.toList = [46] := hstr.2 (by rw [hs]; rfl)
        by_cases hq : q = 2
        · have hdot : c' = dot := by
            have h1 := HSQ.out
            obtain ⟨a1, a2, a3⟩ := c'
            simp only at h0 hs h1
            rw [h0, hs, h1, hq]; rfl
          obtain ⟨c1, k1, c2, k2, rfl⟩ := two_of (k := k') (by rw [← hkc, ← eq, hq])
          obtain ⟨v1, vr1, e1, hn1, v2, vr2, e2, hn2, e3⟩ := hcomp.2.2.2.2.2.2
          have e3' : vr2 = [] := e3
          subst e3' e2
          subst e1
          obtain ⟨t1, x1, rfl⟩ := hn1.iface
          obtain ⟨t2, x2, rfl⟩ := hn2.iface
          have g0 := hwr.1 _ _ (hcomp.2.2.2.2.2.1 0 (by simp))
          have g1 := hwr.1 _ _ (hcomp.2.2.2.2.2.1 1 (by simp))
          simp only [List.getD_cons_zero, List.getD_cons_succ] at g0 g1
          have HG : Hid (b < w0.heap.size ∧ g < w0.heap.size) := ⟨World.block_lt_of_cell? _ _ hcomp.2.2.1, hcomp.2.2.2.2.1⟩
          have HNEXT : Hid (splitF c k = ((its ++ [(c1, k1)]) ++ (splitF c2 k2).1, (splitF c2 k2).2) ∧ FoIn w0 Bt (.node c2 k2 .nil) [.iface t2 x2] ∧ ((Fo.node c2 k2 .nil).ok ∧ (itsF (its ++ [(c1, k1)])).ok) ∧ FoIn w0 Bt (itsF (its ++ [(c1, k1)])) (vs ++ [.iface t1 x1]) ∧ (its ++ [(c1, k1)]).length = n4 + 1) := by
            have hk := HO.out.1.2.2.2.2.1
            refine ⟨?_, ⟨_, [], rfl, hn2, rfl⟩, ⟨hk.2.2.2.2.2, ?_⟩, ?_, by simp [HF.out.2]⟩
            · rw [HF.out.1, hdot, splitF_dot]; simp
            · rw [itsF_snoc, Fo.ok_cat]
              exact ⟨HO.out.2, hk.1, hk.2.1, hk.2.2.1, hk.2.2.2.1, hk.2.2.2.2.1, trivial⟩
            · rw [itsF_snoc]
              exact FoIn.cat _ _ _ _ HI.out ⟨_, [], rfl, hn1, rfl⟩
          have hnn : n4 + 1 + k2.cells.length ≤ 10000 := by simp [Fo.cells] at hn4; omega
          subst hq
          have HROW : Hid (wr.ownsRow w.heap.size 79 1 (.slice p4 n4 c4) n4 vs) := HR.out
          have hBs : w.heap.size ≤ wr.heap.size := HB.out.size
          obtain ⟨i0, hi, hz0, hz1, hz2⟩ := info_parts infoTerm
          have HWS : Hid (w0.heap.size ≤ w.heap.size) := hws
          clear leaf h0 hv STOP HT HO HI HR HF hcomp hkc hcn eq es hstr hs hdot hn1 hn2 e3 hwr HSQ hn4 HFO HOK
          go_wp2_with fail
          refine HFU.mono ?_
          rintro e w2 ⟨rfl, hb2⟩
          have f0 := (hb2.cell (World.block_lt_of_cell? _ _ d1)).trans d1
          have f1 := (hb2.cell (World.block_lt_of_cell? _ _ g0)).trans g0
          have f2 := (hb2.cell (World.block_lt_of_cell? _ _ g1)).trans g1
          have HR2 : Hid (w2.ownsRow w.heap.size 79 1 (.slice p4 n4 c4) n4 vs) := row_below HROW.out hb2
          have HB2 : Hid (Below w.heap.size w w2) := Below.on HB.out hb2
          have hBs2 : w.heap.size ≤ w2.heap.size := HB2.out.size
          clear d0 d1 g0 g1 hb2 HROW HFU
          go_wp2_with fail
          go_region_held3 (fun W => W.cell? ⟨b, 1, none⟩ = some (.slice (some ⟨g, 0, none⟩) 2 2) ∧ W.cell? ⟨g, 0, none⟩ = some (.iface t1 x1) ∧ W.cell? ⟨g, 1, none⟩ = some (.iface t2 x2))
            (first | exact kk | go_keep)
            ((refine step_append_lies _ rfl _ _ 131 rfl w.heap.size 79 i0 .nilIface 1 16 Tryz.underlying131 hi hz0 hz1 hz2 rfl (by decide) (.slice p4 n4 c4) n4 vs rfl (World.ownsRow.alloc (w := w2.drew) HR2.out _) ⟨w2.heap.size, 0, none⟩ 1 1 [.iface t1 x1] rfl rfl (cell_one_new (w2.drew) _ _) (one_ifaceW t1 x1) (by decide) (by unfold maxLen; omega) (by omega) (by simp; omega) _ rfl ?_; intro g5 cap5 w5 hown5 hgrow5 hat5 hlt5; have hb5 : Below w.heap.size (w2.drew.alloc (Obj.cells #[.iface t1 x1] 79)) w5 := (Below.refl _ _).grown hgrow5 (by simp; omega) (fun k hk => (HR2.out.lt k hk).1); have kk : w5.cell? ⟨b, 1, none⟩ = some (.slice (some ⟨g, 0, none⟩) 2 2) ∧ w5.cell? ⟨g, 0, none⟩ = some (.iface t1 x1) ∧ w5.cell? ⟨g, 1, none⟩ = some (.iface t2 x2) := ⟨(hb5.cell (show b < w.heap.size by have := HG.out; have := HWS.out; omega)).trans (Lib.cell?_alloc_marked (W := w2.drew) _ f0), (hb5.cell (show g < w.heap.size by have := HG.out; have := HWS.out; omega)).trans (Lib.cell?_alloc_marked (W := w2.drew) _ f1), (hb5.cell (show g < w.heap.size by have := HG.out; have := HWS.out; omega)).trans (Lib.cell?_alloc_marked (W := w2.drew) _ f2)⟩))
          have HO5 : Hid (w5.ownsRow w.heap.size 79 1 (.slice (some ⟨g5, 0, none⟩) (n4 + 1) cap5) (n4 + 1) (vs ++ [Value.iface t1 x1])) := hown5
          have HB5 : Hid (Below w.heap.size w w5) := ((HB2.out.drew).alloc hBs2 _).trans hb5
          clear hown5 hgrow5 hat5 hb5 kk f0 f1 f2 hi hz0 hz1 hz2
          go_wp2_with fail
          go_roundw
          case rel => exact ⟨its ++ [(c1, k1)], c2, k2, t2, x2, vs ++ [Value.iface t1 x1], _, n4 + 1, cap5, hnn, rfl, rfl, ⟨HNEXT.out.1, HNEXT.out.2.2.2.2.symm⟩, HNEXT.out.2.1, HNEXT.out.2.2.1, HNEXT.out.2.2.2.1, HO5, HB5⟩
          case measure => simp [lenOf]; omega
        · have hq' : ¬ ((q : Int) = 2) := by omega
          have HL : Hid _ := fun W hW => STOP.out W hW (splitF_other _ _ (fun e => hq (by have h1 := HSQ.out; rw [e] at h1; simp [dot] at h1; omega)))
          clear leaf h0 hv STOP HT HO HI HR HF hcomp hkc hcn eq es hstr hs hq HSQ hwr d0 d1
          go_wp2_with fail
          refine HFU.mono ?_
          rintro e w2 ⟨rfl, hb2⟩
          go_wp2_with fail
          go_ret2
          exact HL.out _ hb2
      · have hs' : ¬ str.toList = [46] := fun h => hs (by have := hstr.1 h; simpa using this)
        have HL : Hid _ := fun W hW => STOP.out W hW (splitF_other _ _ (fun e => hs (by rw [e]; rfl)))
        clear leaf h0 hv STOP HT HO HI HR HF hcomp hkc hcn eq es hstr hs HSQ hwr d0 d1
        go_wp2_with fail
        refine HFU.mono ?_
        rintro e w2 ⟨rfl, hb2⟩
        go_wp2_with fail
        go_ret2
        exact HL.out _ hb2
theorem FoIn.atW {w : World} {B : Nat} : ∀ (its : List (Cel × Fo)) (vs : List Value), FoIn w B (itsF its) vs → ∀ i (h : i < its.length), ∃ t x, vs[i]? = some (.iface t x) ∧ FoIn w B (.node its[i].1 its[i].2 .nil) [.iface t x]
  | [], vs, _, i, h => by simp at h
  | a :: r, vs, ⟨v, vr, e, hn, hr⟩, 0, _ => by
    obtain ⟨t, x, rfl⟩ := hn.iface
    exact ⟨t, x, by rw [e]; rfl, _, [], rfl, hn, rfl⟩
  | a :: r, vs, ⟨v, vr, e, hn, hr⟩, i + 1, h => by
    obtain ⟨t, x, h1, h2⟩ := FoIn.atW r vr hr i (by simpa using h)
    exact ⟨t, x, by rw [e]; simpa using h1, by simpa using h2⟩
theorem neq_atomW (w : World) (a b : ByteArray) : (binOp .neq 79 (.iface 106 (.string a)) (.iface 106 (.string b))).run Tryz.prog w = .ok (.bool (!(a == b))) w := by kernel_rfl
theorem neq_varW (w : World) (x : Value) (b : ByteArray) : (binOp .neq 79 (.iface 103 x) (.iface 106 (.string b))).run Tryz.prog w = .ok (.bool true) w := by kernel_rfl
theorem neq_numW (w : World) (x : Value) (b : ByteArray) : (binOp .neq 79 (.iface 105 x) (.iface 106 (.string b))).run Tryz.prog w = .ok (.bool true) w := by kernel_rfl
theorem neq_compW (w : World) (x : Value) (b : ByteArray) : (binOp .neq 79 (.iface 108 x) (.iface 106 (.string b))).run Tryz.prog w = .ok (.bool true) w := by kernel_rfl
theorem end_neqW {w : World} {Bt : Nat} {c : Cel} {k : Fo} {t : TypeId} {x : Value} (hok : (Fo.node c k .nil).ok) (h : FoIn w Bt (.node c k .nil) [.iface t x]) (W : World) :
    (binOp .neq 79 (.iface t x) (.iface 106 (.string ⟨#[91, 93]⟩))).run Tryz.prog W = .ok (.bool (!decide (c = nilC))) W := by
  obtain ⟨v', vr, e, hnode, _⟩ := h
  obtain ⟨rfl, rfl⟩ := List.cons.inj e
  have oth : c.1 ≠ 2 → (!decide (c = nilC)) = true := fun h0 => by
    have : c ≠ nilC := fun e => h0 (by rw [e]; rfl)
    simpa using this
  rcases hnode with ⟨h0, hv⟩ | ⟨h0, hv⟩ | ⟨h0, hv⟩ | ⟨h0, b, g, kv, hv, _⟩
  · rw [hv, neq_varW, oth (by rw [h0]; decide)]
  · rw [hv, neq_numW, oth (by rw [h0]; decide)]
  · have hc1 : c.2.1 = 0 := by have := hok.1; rw [h0] at this; simp [cellB] at this; exact this.2
    have e1 := str_beq hok.2.1 [91, 93]
    rw [hv, neq_atomW]
    have e2 : (strOfNums c.2.2 == (⟨#[91, 93]⟩ : ByteArray)) = decide (c = nilC) := by
      rw [e1]
      congr 1
      rw [eq_iff_iff]
      constructor
      · intro h
        obtain ⟨a, b, d⟩ := c
        simp only at h0 hc1 h
        rw [h0, hc1, h]; rfl
      · intro h; rw [h]; rfl
    rw [e2]
  · rw [hv, neq_compW, oth (by rw [h0]; decide)]
theorem grown_cells {W0 : Bas} {W : World} {wb : Nat} (h : W0.grownBy W (some wb)) : CellsK (strikeA (W0.may wb) W0.t) W := by
  refine ⟨fun p v hp => ?_, by rw [strikeA_size]; exact h.tsize⟩
  obtain ⟨h1, h2⟩ := strikeA_cell.1 hp
  have hlt := World.block_lt_of_cell? _ _ h2
  have hb := h.block p.block hlt (fun e => h1 (.inl (Option.some.inj e))) (fun e => h1 (.inr e))
  unfold World.cell? at h2 ⊢
  rw [hb]; exact h2
theorem FoA.nodeK {W0 : Bas} {wb : Nat} {c : Cel} {k : Fo} {v : Value} (hok : (Fo.node c k .nil).ok) (h : FoA (W0.may wb) W0.t (.node c k .nil) [v]) : NodeK W0 wb c k v := ⟨hok, fun W hW => by
  have hc := grown_cells hW
  have h2 : FoIn W 0 (.node c k .nil) [v] := FoIn.imp2 (Nat.le_refl _) (fun p v hp => hc.1 p v hp) hc.2 _ _ h
  obtain ⟨v', vr, e, hn, _⟩ := h2
  obtain ⟨rfl, rfl⟩ := List.cons.inj e
  exact hn⟩
theorem row_keptW {w W : World} {wb base n : Nat} {v : Value} {vs : List Value} (h : w.ownsRow base 79 1 v n vs) (hk : Kept w W wb) (hb : wb < base) : W.ownsRow base 79 1 v n vs := by
  refine ⟨h.1, ?_⟩
  rcases h.2 with h0 | ⟨g, cap, cur, hv, hg, hh, r⟩
  · exact .inl h0
  · exact .inr ⟨g, cap, cur, hv, hg, hk.blk g _ hh (by omega) (fun cur fr e => by simp at e), r⟩
end Go.Proofs.YtelcfcgdnebdgaaGreatDoor
namespace Go.Proofs.YtelcfcgdnebdgaaGreatDoor
open Go Go.RowKit
set_option linter.unusedVariables false
theorem start_put (R : List Int) (k : Nat) {y : Int} (hy : isOfB y 8 = false) : startB (putR R k [y]) 0 := fun _ => by
  rw [endI_putR (by simp)]; exact hy
theorem put_ws {W0 : Bas} {wb : Nat} {K : WK} (hK : TabsK W0 wb) {R X R' : List Int} {k k' : Nat} (hR : Byte R) (hX : Byte X) (hl : (putR R k X).length ≤ 10000000000) (e : putR R k X = R') (ek : putG k X = k') (W : World) (hW : ∃ p n c, WS W0 W wb K p n c R k) :
    Calls Tryz.prog 47 #[.pointer (some ⟨wb, 0, none⟩), .string (strOfNums X)] W (PutOut W0 W wb K R' k') := by
  rw [← e, ← ek]
  exact put_any W0 W wb K R X k (hK.tab _ (WSx.gr hW)) hR hX (by have := putR_ge R X k; omega) hW
set_option maxRecDepth 100000 in
set_option maxHeartbeats 1000000 in
theorem list_walk {W0 : Bas} {wb : Nat} {K : WK} (c : Cel) (kk : Fo) (b : Nat) (nilq : Bool) (R : List Int) (k : Nat) (X R1 J R3 Z : List Int) (hX : X ≠ []) (hdot : 1 ≤ (splitF c kk).1.length) (hnl : (splitF c kk).1.length ≤ 10000) (w : World) (HS : Hid (∃ p n c, WS W0 w wb K p n c R k))
    (HSP : Calls Tryz.prog 113 #[.iface 108 (.pointer (some ⟨b, 0, none⟩))] w (SplitOutW (strikeA (W0.may wb) W0.t) 0 w c kk))
    (HP1 : Hid (∀ (W : World), (∃ p n c, WS W0 W wb K p n c R k) → Calls Tryz.prog 47 #[.pointer (some ⟨wb, 0, none⟩), .string ⟨#[91]⟩] W (PutOut W0 W wb K R1 0)))
    (HT : Hid (∀ (W1 W : World) (g cap : Nat) (vs : List Value), W1.ownsRow w.heap.size 79 1 (.slice (some ⟨g, 0, none⟩) (splitF c kk).1.length cap) (splitF c kk).1.length vs → FoIn (strikeA (W0.may wb) W0.t) 0 (itsF (splitF c kk).1) vs → (itsF (splitF c kk).1).ok → Kept W1 W wb → (∃ p n c, WS W0 W wb K p n c R1 0) → Calls Tryz.prog 94 #[.pointer (some ⟨wb, 0, none⟩), .slice (some ⟨g, 0, none⟩) (splitF c kk).1.length cap] W (TxtOut W0 W wb K R1 0 J)))
    (HQ : Hid (∀ v, (Fo.node (splitF c kk).2.1 (splitF c kk).2.2 .nil).ok → FoIn (strikeA (W0.may wb) W0.t) 0 (.node (splitF c kk).2.1 (splitF c kk).2.2 .nil) [v] → ∀ W, (binOp .neq 79 v (.iface 106 (.string ⟨#[91, 93]⟩))).run Tryz.prog W = .ok (.bool nilq) W))
    (HP2 : Hid (nilq = true → ∀ (W : World) (k1 : Nat), (∃ p n c, WS W0 W wb K p n c (R1 ++ J) k1) → Calls Tryz.prog 47 #[.pointer (some ⟨wb, 0, none⟩), .string ⟨#[124]⟩] W (PutOut W0 W wb K R3 0)))
    (HTE : Hid (nilq = true → ∀ (W : World) (v : Value), (Fo.node (splitF c kk).2.1 (splitF c kk).2.2 .nil).ok → FoIn (strikeA (W0.may wb) W0.t) 0 (.node (splitF c kk).2.1 (splitF c kk).2.2 .nil) [v] → (∃ p n c, WS W0 W wb K p n c R3 0) → Calls Tryz.prog 40 #[.pointer (some ⟨wb, 0, none⟩), v, .int .i64 999] W (TxtOut W0 W wb K R3 0 Z)))
    (HP3 : Hid (∀ (W : World) (k1 : Nat), (∃ p n c, WS W0 W wb K p n c (if nilq = true then R3 ++ Z else R1 ++ J) k1) → Calls Tryz.prog 47 #[.pointer (some ⟨wb, 0, none⟩), .string ⟨#[93]⟩] W (PutOut W0 W wb K (putR R k X) 0))) :
    Calls Tryz.prog 92 #[.pointer (some ⟨wb, 0, none⟩), .pointer (some ⟨b, 0, none⟩)] w (TxtOut W0 w wb K R k X) := by
  have HX : Hid (X ≠ [] ∧ 1 ≤ (splitF c kk).1.length) := ⟨hX, hdot⟩
  clear hX hdot
  go_enter Tryz.func92, Tryz.ntmps92
  go_wp2_with fail
  refine HSP.mono ?_
  rintro e w1 ⟨p, n, cp, v, vs, rfl, hn, hrow, hits, hend, hoki, hoke, hb1⟩
  subst hn
  obtain ⟨g, cap, hv, hbg, hgl⟩ := World.ownsRow.form hrow (by have := HX.out.2; omega)
  obtain ⟨rfl, rfl⟩ : p = some ⟨g, 0, none⟩ ∧ cp = cap := by injection hv with h1 _ h2; exact ⟨h1, h2⟩
  obtain ⟨et, ex, rfl⟩ := hend.iface
  have HS1 : Hid (∃ p n c, WS W0 w1 wb K p n c R k) := WSx.below HS.out hb1
  have HK1 : Hid (Kept w w1 wb) := Kept.below hb1
  have hneq := HQ.out _ hoke hend
  have HTE2 : Hid (nilq = true → ∀ (W : World), (∃ p n c, WS W0 W wb K p n c R3 0) → Calls Tryz.prog 40 #[.pointer (some ⟨wb, 0, none⟩), .iface et ex, .int .i64 999] W (TxtOut W0 W wb K R3 0 Z)) := fun hq W hW => HTE.out hq W _ hoke hend hW
  have HT2 : Hid (∀ W, Kept w1 W wb → (∃ p n c, WS W0 W wb K p n c R1 0) → Calls Tryz.prog 94 #[.pointer (some ⟨wb, 0, none⟩), .slice (some ⟨g, 0, none⟩) (splitF c kk).1.length cp] W (TxtOut W0 W wb K R1 0 J)) := fun W hk hW => HT.out w1 W g cp vs hrow hits hoki hk hW
  have H2 := HP1.out w1 HS1.out
  clear HSP HT HQ HTE hrow hits hend hoki hoke hb1 hv hbg hgl HP1
  generalize (splitF c kk).1.length = n at hnl HT2 ⊢
  go_wp2_with fail
  refine H2.mono ?_
  rintro e w2 ⟨rfl, hs2, hk2⟩
  have HK2 : Hid (Kept w w2 wb) := HK1.out.trans hk2
  have H3 := HT2.out w2 hk2 hs2
  clear hs2 hk2 H2 HT2
  go_wp2_with fail
  refine H3.mono ?_
  rintro e w3 ⟨rfl, ⟨k3, hk3, hs3⟩, hkp3⟩
  rw [putR_zero] at hs3
  have HK3 : Hid (Kept w w3 wb) := HK2.out.trans hkp3
  have HS3 : Hid (∃ p n c, WS W0 w3 wb K p n c (R1 ++ J) k3) := hs3
  clear hs3 hk3 hkp3 H3
  cases nilq with
  | false =>
    have H4 := HP3.out w3 k3 (by rw [if_neg (by decide)]; exact HS3.out)
    clear HP3
    go_wp2_with fail
    refine H4.mono ?_
    rintro e w4 ⟨rfl, hs4, hk4⟩
    have HF : Hid (TxtOut W0 w wb K R k X (.returned (.tuple #[])) w4) := ⟨rfl, ⟨0, fun h => absurd h HX.out.1, hs4⟩, HK3.out.trans hk4⟩
    clear hs4 hk4 H4
    go_wp2_with fail
    exact bodyPost_end (v := .tuple #[]) (by simp [results, Tryz.results92, go_sem]) rfl HF.out
  | true =>
    have H4 := HP2.out rfl w3 k3 HS3.out
    have HP3' : Hid (∀ (W : World) (k1 : Nat), (∃ p n c, WS W0 W wb K p n c (R3 ++ Z) k1) → Calls Tryz.prog 47 #[.pointer (some ⟨wb, 0, none⟩), .string ⟨#[93]⟩] W (PutOut W0 W wb K (putR R k X) 0)) := fun W k1 hW => HP3.out W k1 (by rw [if_pos rfl]; exact hW)
    clear HP3 HP2
    go_wp2_with fail
    refine H4.mono ?_
    rintro e w4 ⟨rfl, hs4, hk4⟩
    have HK4 : Hid (Kept w w4 wb) := HK3.out.trans hk4
    have H5 := HTE2.out (by trivial) w4 hs4
    clear hs4 hk4 H4 HTE2
    go_wp2_with fail
    refine H5.mono ?_
    rintro e w5 ⟨rfl, ⟨k5, hk5, hs5⟩, hkp5⟩
    rw [putR_zero] at hs5
    have HK5 : Hid (Kept w w5 wb) := HK4.out.trans hkp5
    have H6 := HP3'.out w5 k5 hs5
    clear hs5 hk5 hkp5 H5 HP3'
    go_wp2_with fail
    refine H6.mono ?_
    rintro e w6 ⟨rfl, hs6, hk6⟩
    have HF : Hid (TxtOut W0 w wb K R k X (.returned (.tuple #[])) w6) := ⟨rfl, ⟨0, fun h => absurd h HX.out.1, hs6⟩, HK5.out.trans hk6⟩
    clear hs6 hk6 H6
    go_wp2_with fail
    exact bodyPost_end (v := .tuple #[]) (by simp [results, Tryz.results92, go_sem]) rfl HF.out
set_option maxRecDepth 100000 in
theorem term_comp {W0 : Bas} {wb : Nat} {K : WK} (b : Nat) (pr : Int) (X : List Int) (h : ∀ (w : World) (R : List Int) (k : Nat), Byte R → (putR R k X).length ≤ 10000000000 → startB R k → (∃ p n c, WS W0 w wb K p n c R k) → Calls Tryz.prog 63 #[.pointer (some ⟨wb, 0, none⟩), .pointer (some ⟨b, 0, none⟩), .int .i64 pr] w (TxtOut W0 w wb K R k X)) :
    TermAt W0 wb K (.iface 108 (.pointer (some ⟨b, 0, none⟩))) pr X := by
  intro w R k hR hl hst hT hP hs
  have H1 := h w R k hR hl hst hs
  have n1 := wiT_comp_var
  have n2 := wiT_comp_num
  have n3 := wiT_comp_atom
  have n4 := wiT_comp_comp
  clear h hR hl hst hT hP hs
  go_enter Tryz.func40, Tryz.ntmps40
  go_wp2_with fail
  refine H1.mono ?_
  rintro e w1 ⟨rfl, h2, h3⟩
  have HO : Hid (TxtOut W0 w wb K R k X (.returned (.tuple #[])) w1) := ⟨rfl, h2, h3⟩
  clear h2 h3 H1
  go_wp2_with fail
  exact bodyPost_end (v := .tuple #[]) (by simp [results, Tryz.results40, go_sem]) rfl HO.out
theorem list_any {W0 : Bas} {wb : Nat} {K : WK} (hK : TabsK W0 wb) (rec : Tr → Int → List Int) (c : Cel) (kk : Fo) (b : Nat) (hok : (Fo.node c kk .nil).ok) (hl0 : kk.cells.length ≤ 2000) (hd : c = dot) (hfo : FoA (W0.may wb) W0.t (.node c kk .nil) [.iface 108 (.pointer (some ⟨b, 0, none⟩))])
    (hT : ∀ (x : Tr) (v : Value), (x ∈ (splitF c kk).1 ∨ x = (splitF c kk).2) → (Fo.node x.1 x.2 .nil).ok → FoA (W0.may wb) W0.t (.node x.1 x.2 .nil) [v] → TermAt W0 wb K v 999 (rec x 999)) (hB : ∀ x : Tr, (x ∈ (splitF c kk).1 ∨ x = (splitF c kk).2) → Byte (rec x 999))
    (R : List Int) (k : Nat) (hR : Byte R) (hl : (putR R k (listW rec (c, kk))).length ≤ 10000000000) (w : World) (hs : ∃ p n c, WS W0 w wb K p n c R k) :
    Calls Tryz.prog 92 #[.pointer (some ⟨wb, 0, none⟩), .pointer (some ⟨b, 0, none⟩)] w (TxtOut W0 w wb K R k (listW rec (c, kk))) := by
  have hgr := WSx.gr hs
  have hwb : wb < w.heap.size := by obtain ⟨_, _, _, h⟩ := hs; have := h.hwb; have := h.gr.size; omega
  obtain ⟨hsz, hone⟩ := split_sizeW _ c kk (Nat.le_refl _) hok
  have hnl : (splitF c kk).1.length ≤ 10000 := by omega
  have HSP := splitListW_any c kk (.iface 108 (.pointer (some ⟨b, 0, none⟩))) 0 (strikeA (W0.may wb) W0.t) w hok hfo (grown_cells hgr) (by omega)
  obtain ⟨J, eJ⟩ : ∃ J, J = joinW ((splitF c kk).1.map (rec · 999)) := ⟨_, rfl⟩
  obtain ⟨Z, eZ⟩ : ∃ Z, Z = rec (splitF c kk).2 999 := ⟨_, rfl⟩
  obtain ⟨nilq, enq⟩ : ∃ q, q = !decide ((splitF c kk).2.1 = nilC) := ⟨_, rfl⟩
  have b91 : Byte [91] := fun x hx => by simp at hx; omega
  have b93 : Byte [93] := fun x hx => by simp at hx; omega
  have b124 : Byte [124] := fun x hx => by simp at hx; omega
  have hJ : Byte J := by
    rw [eJ]
    refine join_byte _ fun a ha => ?_
    obtain ⟨x, hx, rfl⟩ := List.mem_map.1 ha
    exact hB x (.inl hx)
  have hZ : Byte Z := by rw [eZ]; exact hB _ (.inr rfl)
  have eX : listW rec (c, kk) = 91 :: (J ++ ((if nilq = true then 124 :: Z else []) ++ [93])) := by
    unfold listW
    rw [eJ, eZ, enq]
    by_cases h : (splitF c kk).2.1 = nilC
    · rw [if_pos h, decide_eq_true h]; rfl
    · rw [if_neg h, decide_eq_false h]; rfl
  have hFX : putR R k [91] ++ (J ++ ((if nilq = true then 124 :: Z else []) ++ [93])) = putR R k (listW rec (c, kk)) := by
    rw [eX, putR_more (by simp)]; rfl
  have hlt : (putR R k [91] ++ (J ++ ((if nilq = true then 124 :: Z else []) ++ [93]))).length ≤ 10000000000 := by rw [hFX]; exact hl
  have hR1 : Byte (putR R k [91]) := byte_putR hR b91
  simp only [List.length_append] at hlt
  refine list_walk (R1 := putR R k [91]) (J := J) (R3 := putR R k [91] ++ J ++ [124]) (Z := Z) c kk b nilq R k _ (by rw [eX]; simp) (hone hd) hnl w hs HSP ?_ ?_ ?_ ?_ ?_ ?_
  · exact fun W hW => put_ws hK hR b91 (by omega) rfl rfl W hW
  · intro W1 W g cap vs hrow hits hoki hkW hW
    have hTA := terms_any hK g (splitF c kk).1.length cap vs ((splitF c kk).1.map (rec · 999)) (by omega) (by simp) W (putR R k [91]) 0 (fun W2 hg2 hk2 i hi => by
        obtain ⟨t, x, h1, _⟩ := FoIn.atW (splitF c kk).1 vs hits i hi
        have hr2 := row_keptW hrow (hkW.trans hk2) hwb
        have hc := World.ownsRow.cellAt hr2 i (by omega)
        refine ⟨t, x, by simp [List.getD, h1], ?_⟩
        rw [hc, h1]; simp [List.getD, h1]) (fun i hi => by
        obtain ⟨t, x, h1, h2⟩ := FoIn.atW (splitF c kk).1 vs hits i hi
        have h3 := hT (splitF c kk).1[i] (.iface t x) (.inl (List.getElem_mem hi)) (itsF_ok_at _ hoki i hi) h2
        have e1 : vs.getD i .nilIface = .iface t x := by simp [List.getD, h1]
        have e2 : ((splitF c kk).1.map (rec · 999)).getD i [] = rec (splitF c kk).1[i] 999 := by simp [List.getD, hi]
        rw [e1, e2]; exact h3) (fun i hi => by
        have e2 : ((splitF c kk).1.map (rec · 999)).getD i [] = rec (splitF c kk).1[i] 999 := by simp [List.getD, hi]
        rw [e2]; exact hB _ (.inl (List.getElem_mem hi))) hR1 (by rw [putR_zero, ← eJ, List.length_append]; omega) (start_put R k rfl) hW
    rw [← eJ] at hTA
    exact hTA
  · intro v hoke hend W
    obtain ⟨et, ex, rfl⟩ := hend.iface
    rw [enq]
    exact end_neqW hoke hend W
  · intro hq W k1 hW
    rw [if_pos hq] at hlt
    simp only [List.length_cons] at hlt
    exact put_ws hK (byte_app hR1 hJ) b124 (by rw [putR_close (.inr (.inr (.inr (.inl rfl))))]; simp only [List.length_append, List.length_cons, List.length_nil]; omega) (putR_close (.inr (.inr (.inr (.inl rfl)))) _ _ _) rfl W hW
  · intro hq W v hoke hend hW
    rw [if_pos hq] at hlt
    simp only [List.length_cons] at hlt
    have h3 := hT (splitF c kk).2 v (.inr rfl) hoke hend
    rw [← eZ] at h3
    refine h3 W _ 0 (byte_app (byte_app hR1 hJ) b124) (by rw [putR_zero]; simp only [List.length_append, List.length_cons, List.length_nil]; omega) (start_behind rfl 0) (hK.tab _ (WSx.gr hW)) (hK.pow _ (WSx.gr hW)) hW
  · intro W k1 hW
    have hb : Byte (if nilq = true then putR R k [91] ++ J ++ [124] ++ Z else putR R k [91] ++ J) := by
      split
      · exact byte_app (byte_app (byte_app hR1 hJ) b124) hZ
      · exact byte_app hR1 hJ
    refine put_ws hK hb b93 ?_ ?_ rfl W hW
    · rw [putR_close (.inr (.inl rfl))]
      cases hq : nilq with
      | true => rw [hq] at hlt; simp at hlt ⊢; omega
      | false => rw [hq] at hlt; simp at hlt ⊢; omega
    · rw [putR_close (.inr (.inl rfl)), ← hFX]
      cases hq : nilq with
      | true => simp
      | false => simp
end Go.Proofs.YtelcfcgdnebdgaaGreatDoor
namespace Go.Proofs.YtelcfcgdnebdgaaGreatDoor
open Go Go.RowKit
set_option linter.unusedVariables false
theorem sort_op {t : Int} (h0 : 0 ≤ t) (h6 : t ≤ 6) : (preB t = true → postB t = false) ∧ (preB t = false → infB t = true → postB t = false) ∧ (preB t = false → infB t = false → postB t = true) := by
  have h : t = 0 ∨ t = 1 ∨ t = 2 ∨ t = 3 ∨ t = 4 ∨ t = 5 ∨ t = 6 := by omega
  rcases h with rfl | rfl | rfl | rfl | rfl | rfl | rfl <;> exact ⟨by decide, by decide, by decide⟩
theorem FoIn.treeW {w : World} {B : Nat} : ∀ (F : Fo) (vs : List Value), FoIn w B F vs → ∀ j (h : j < (trs F).length), FoIn w B ((trs F)[j]).fo [vs.getD j .nilIface]
  | .nil, vs, _, j, h => by simp [trs] at h
  | .node c k r, vs, ⟨v, vr, e, hn, hr⟩, j, h => by
    subst e
    cases j with
    | zero => exact ⟨v, [], rfl, hn, rfl⟩
    | succ j => simpa [trs] using FoIn.treeW r vr hr j (by simpa [trs] using h)
theorem kid_in {W0 : Bas} {wb : Nat} {c : Cel} {kk : Fo} {vs : List Value} (hok : (Fo.node c kk .nil).ok) (hk : FoIn (strikeA (W0.may wb) W0.t) 0 kk vs) (i : Nat) (hi : i < kk.count) :
    (kidW (c, kk) i).fo.ok ∧ FoA (W0.may wb) W0.t (kidW (c, kk) i).fo [vs.getD i .nilIface] ∧ (kidW (c, kk) i).2.cells.length + 1 ≤ kk.cells.length := by
  have hm := kid_at (t := (c, kk)) hi
  refine ⟨trs_okW hok.2.2.2.2.1 _ hm, ?_, ?_⟩
  · have hl : i < (trs kk).length := by rw [trs_len]; exact hi
    have h := FoIn.treeW kk vs hk i hl
    have e : kidW (c, kk) i = (trs kk)[i] := by unfold kidW; simp [List.getD, hl]
    rw [e]; exact h
  · have := trs_le kk _ hm
    simpa [itC] using this
structure KidG (W0 : Bas) (wb : Nat) (K : WK) (T : List Cel) (rec : Tr → Int → List Int) (t : Tr) (v : Value) : Prop where
  node : NodeK W0 wb t.1 t.2 v
  ifc : ∃ vt vx, v = .iface vt vx
  wr : ∀ p, 0 ≤ p → p ≤ 1200 → TermAt W0 wb K v p (rec t p)
  byt : ∀ p, Byte (rec t p)
  top : 0 ≤ topI T t.1 → ∃ Z, ∀ p, p ≤ 1200 → rec t p = if p < (opW T (topI T t.1)).1 then parW Z else Z
  atm : t.1.1 = 2 → ∀ p, rec t p = rec t 1200
theorem rightI_rng {op : Cel} (h : 1 ≤ op.1 ∧ op.1 ≤ 1200) : 0 ≤ rightI op.1 op.2.1 ∧ rightI op.1 op.2.1 ≤ 1200 := by unfold rightI; split <;> omega
theorem leftI_rng {op : Cel} (h : 1 ≤ op.1 ∧ op.1 ≤ 1200) : 0 ≤ leftI op.1 op.2.1 ∧ leftI op.1 op.2.1 ≤ 1200 := by unfold leftI; split <;> omega
theorem top_pri {T : List Cel} (hT : TabG T) {c : Cel} (h : 0 ≤ topI T c) : 1 ≤ (opW T (topI T c)).1 ∧ (opW T (topI T c)).1 ≤ 1200 := by
  obtain ⟨_, _, _, j, hj, ej, _⟩ := top_facts h
  have := (hT.op j hj).2.2.1
  rw [ej]
  have e : opW T (j : Int) = T.getD j Cel.none := by simp [opW]
  rw [e]; exact this
theorem right_kid {W0 : Bas} {wb : Nat} {K : WK} {T : List Cel} {N : List (List Int)} {M : Nat} (hE : EnvK W0 wb K T N M) {rec : Tr → Int → List Int} {op : Cel} (hb : Byte op.2.2) (hl1 : op.2.2.length ≤ 100) (hp : 1 ≤ op.1 ∧ op.1 ≤ 1200) {t : Tr} {v : Value} (hk : KidG W0 wb K T rec t v) (R : List Int) (hR : Byte R) (hl : (rightR op R (operandW rec T t (rightP op) false op)).length ≤ 10000000000) :
    ∀ (W : World) (k1 : Nat), (∃ p n c, WS W0 W wb K p n c R k1) → Calls Tryz.prog 112 #[.pointer (some ⟨wb, 0, none⟩), encV op, v] W (ROut W0 W wb K (rightR op R (operandW rec T t (rightP op) false op))) := by
  intro W k1 hW
  rw [right_opd] at hl ⊢
  exact rightOp_any hE op hb hl1 hp t.1 t.2 v hk.node (rec t (rightP op)) (hk.byt _) (hk.wr _ (rightI_rng hp).1 (rightI_rng hp).2) (fun h => by rw [hk.atm h]; exact hk.wr 1200 (by omega) (by omega)) W R k1 hR hl hW
theorem left_kid {W0 : Bas} {wb : Nat} {K : WK} {T : List Cel} {N : List (List Int)} {M : Nat} (hE : EnvK W0 wb K T N M) {rec : Tr → Int → List Int} {op : Cel} (hb : Byte op.2.2) (hl1 : op.2.2.length ≤ 100) (hp : 1 ≤ op.1 ∧ op.1 ≤ 1200) {t : Tr} {v : Value} (hk : KidG W0 wb K T rec t v) (R : List Int) (k : Nat) (hR : Byte R) (hst : startB R k) (hl : (putR R k (operandW rec T t (leftP op) true op)).length ≤ 10000000000) :
    ∀ (W : World), (∃ p n c, WS W0 W wb K p n c R k) → Calls Tryz.prog 110 #[.pointer (some ⟨wb, 0, none⟩), encV op, v] W (LOut W0 W wb K (leftR op R k (operandW rec T t (leftP op) true op)) (leftK op)) := by
  intro W hW
  have e := left_opd (rec := rec) (op := op) hk.top hp (fun h => (top_pri hE.tab h).2)
  rw [e] at hl ⊢
  exact leftOp_any hE op hb hl1 hp t.1 t.2 v hk.node (rec t (leftP op)) (rec t 1200) (hk.byt _) (hk.byt _) (hk.wr _ (leftI_rng hp).1 (leftI_rng hp).2) (fun h => by rw [hk.atm h]; exact hk.wr 1200 (by omega) (by omega)) (hk.wr 1200 (by omega) (by omega)) W R k hR hst hl hW
theorem kid_byteR {W0 : Bas} {wb : Nat} {K : WK} {T : List Cel} {rec : Tr → Int → List Int} {t : Tr} {v : Value} (hk : KidG W0 wb K T rec t v) (p : Int) (left : Bool) (op : Cel) : Byte (operandW rec T t p left op) := by
  unfold operandW
  split
  · exact (par_good (hk.byt p)).1
  · split
    · exact (par_good (hk.byt p)).1
    · exact hk.byt p
theorem oper_any {W0 : Bas} {wb : Nat} {K : WK} {T : List Cel} {N : List (List Int)} {M : Nat} (hE : EnvK W0 wb K T N M) (rec : Tr → Int → List Int) (c : Cel) (kk : Fo) (op : Cel) (hb : Byte op.2.2) (hl1 : op.2.2.length ≤ 100) (hp : 1 ≤ op.1 ∧ op.1 ≤ 1200) (ht : 0 ≤ op.2.1 ∧ op.2.1 ≤ 6) (g : Nat) (vs : List Value)
    (hc : ∀ W, W0.grownBy W (some wb) → ∀ i, i < vs.length → W.cell? ⟨g, i, none⟩ = some (vs.getD i .nilIface)) (hn : (vs.length = 2 ∧ preB op.2.1 = false ∧ infB op.2.1 = true) ∨ (vs.length = 1 ∧ (preB op.2.1 = true ∨ (preB op.2.1 = false ∧ infB op.2.1 = false))))
    (hk : ∀ i, i < vs.length → KidG W0 wb K T rec (kidW (c, kk) i) (vs.getD i .nilIface)) (R : List Int) (k : Nat) (hR : Byte R) (hst : startB R k) (hl : (putR R k (operW rec T K.2.2.2.2 (c, kk) op)).length ≤ 10000000000) (W : World) (hW : ∃ p n c, WS W0 W wb K p n c R k) :
    Calls Tryz.prog 90 #[.pointer (some ⟨wb, 0, none⟩), encV op, .slice (some ⟨g, 0, none⟩) vs.length vs.length] W (ROut W0 W wb K (putR R k (operW rec T K.2.2.2.2 (c, kk) op))) := by
  obtain ⟨s1, s2, s3⟩ := sort_op ht.1 ht.2
  have hnb := (nameW_good K.2.2.2.2 hb hl1).1
  rcases hn with ⟨h2, hpre, hinf⟩ | ⟨h1, hpre | ⟨hpre, hinf⟩⟩
  · have hk0 := hk 0 (by omega)
    have hk1 := hk 1 (by omega)
    obtain ⟨L, eL⟩ : ∃ L, L = operandW rec T (kidW (c, kk) 0) (leftP op) true op := ⟨_, rfl⟩
    obtain ⟨Y, eY⟩ : ∃ Y, Y = operandW rec T (kidW (c, kk) 1) (rightP op) false op := ⟨_, rfl⟩
    have hLb : Byte L := by rw [eL]; exact kid_byteR hk0 _ _ _
    have hYb : Byte Y := by rw [eY]; exact kid_byteR hk1 _ _ _
    have eO : operW rec T K.2.2.2.2 (c, kk) op = L ++ midGap op L (nameW K.2.2.2.2 op) ++ nameW K.2.2.2.2 op ++ (midGap op (nameW K.2.2.2.2 op) Y ++ Y) := by
      unfold operW
      rw [if_neg (by rw [hpre]; decide), ← eL, ← eY]
      simp only [hinf, if_true]
    have eM := wt_left (R := R) (L := L) (k := k) K.2.2.2.2 hb hl1 hLb hst
    have eF := wt_mid (R := R) (S := L ++ midGap op L (nameW K.2.2.2.2 op)) (Y := Y) (k := k) K.2.2.2.2 hpre hb hl1 hYb
    rw [eO] at hl ⊢
    rw [← eF, ← eM]
    have hl9 := hl
    rw [← eF, ← eM] at hl9
    have hm1 := putR_mono R k (L ++ midGap op L (nameW K.2.2.2.2 op) ++ nameW K.2.2.2.2 op) (midGap op (nameW K.2.2.2.2 op) Y ++ Y)
    have hm0 := putR_mono R k L (midGap op L (nameW K.2.2.2.2 op) ++ nameW K.2.2.2.2 op ++ (midGap op (nameW K.2.2.2.2 op) Y ++ Y))
    have eA : L ++ (midGap op L (nameW K.2.2.2.2 op) ++ nameW K.2.2.2.2 op ++ (midGap op (nameW K.2.2.2.2 op) Y ++ Y)) = L ++ midGap op L (nameW K.2.2.2.2 op) ++ nameW K.2.2.2.2 op ++ (midGap op (nameW K.2.2.2.2 op) Y ++ Y) := by simp
    rw [eA] at hm0
    have hbM : Byte (putR (leftR op R k L) (leftK op) (nameW K.2.2.2.2 op)) := by
      refine byte_putR ?_ hnb
      unfold leftR
      have b32 : Byte [32] := fun x hx => by simp at hx; omega
      split
      · exact byte_putR hR (byte_app hLb b32)
      · exact byte_putR hR hLb
    have hlM : (putR (leftR op R k L) (leftK op) (nameW K.2.2.2.2 op)).length ≤ 10000000000 := by rw [eM]; omega
    rw [h2]
    exact oper_inf hE op hb hl1 hpre (s2 hpre hinf) g R k hR _ hk0.ifc L hLb (by
        rw [eL]; exact left_kid hE hb hl1 hp hk0 R k hR hst (by rw [← eL]; omega)) (fun W hW => hc W hW 0 (by omega)) _ hk1.ifc Y (by
        rw [eY] at hl9 ⊢; exact right_kid hE hb hl1 hp hk1 _ hbM hl9) (fun W hW => hc W hW 1 (by omega)) W hlM hW
  · have hk0 := hk 0 (by omega)
    obtain ⟨Y, eY⟩ : ∃ Y, Y = operandW rec T (kidW (c, kk) 0) (rightP op) false op := ⟨_, rfl⟩
    have hYb : Byte Y := by rw [eY]; exact kid_byteR hk0 _ _ _
    have eO : operW rec T K.2.2.2.2 (c, kk) op = nameW K.2.2.2.2 op ++ preGap K.2.2.2.2 op Y ++ Y := by
      unfold operW
      rw [if_pos hpre, ← eY]
    have eF := wt_pre (R := R) (Y := Y) (k := k) K.2.2.2.2 hpre hb hl1 hYb
    rw [eO] at hl ⊢
    rw [← eF]
    have hl9 := hl
    rw [← eF] at hl9
    have hm1 := putR_mono R k (nameW K.2.2.2.2 op) (preGap K.2.2.2.2 op Y ++ Y)
    rw [← List.append_assoc] at hm1
    rw [h1]
    exact oper_pre hE op hb hl1 hpre (s1 hpre) g R k hR _ hk0.ifc Y (by
        rw [eY] at hl9 ⊢; exact right_kid hE hb hl1 hp hk0 _ (byte_putR hR hnb) hl9) (fun W hW => hc W hW 0 (by omega)) W (by omega) hW
  · have hk0 := hk 0 (by omega)
    obtain ⟨L, eL⟩ : ∃ L, L = operandW rec T (kidW (c, kk) 0) (leftP op) true op := ⟨_, rfl⟩
    have hLb : Byte L := by rw [eL]; exact kid_byteR hk0 _ _ _
    have eO : operW rec T K.2.2.2.2 (c, kk) op = L ++ midGap op L (nameW K.2.2.2.2 op) ++ nameW K.2.2.2.2 op := by
      unfold operW
      rw [if_neg (by rw [hpre]; decide), ← eL]
      simp only [hinf]
      rfl
    have eM := wt_left (R := R) (L := L) (k := k) K.2.2.2.2 hb hl1 hLb hst
    rw [eO] at hl ⊢
    rw [← eM]
    have hl9 := hl
    rw [← eM] at hl9
    have hm0 := putR_mono R k L (midGap op L (nameW K.2.2.2.2 op) ++ nameW K.2.2.2.2 op)
    rw [← List.append_assoc] at hm0
    rw [h1]
    exact oper_post hE op hb hl1 hpre (s3 hpre hinf) g R k hR _ hk0.ifc L hLb (by
        rw [eL]; exact left_kid hE hb hl1 hp hk0 R k hR hst (by rw [← eL]; omega)) (fun W hW => hc W hW 0 (by omega)) W hl9 hW
theorem oper_ne (rec : Tr → Int → List Int) (T : List Cel) (q : Bool) (t : Tr) {op : Cel} (hl1 : op.2.2.length ≤ 100) : operW rec T q t op ≠ [] := by
  have key : nameW q op = [] → spacedB op.2.2 = true := fun h => by
    cases hs : spacedB op.2.2 with
    | true => rfl
    | false =>
      have hm := markN q hs hl1
      rw [hm.nm] at h
      exact absurd h hm.ne
  unfold operW
  split
  · intro h
    simp only [List.append_eq_nil_iff] at h
    have h2 := h.1.2
    unfold preGap at h2
    rw [if_pos (key h.1.1)] at h2
    simp at h2
  · have k2 : ∀ L : List Int, L ++ midGap op L (nameW q op) ++ nameW q op ≠ [] := fun L h => by
      simp only [List.append_eq_nil_iff] at h
      have h2 := h.1.2
      unfold midGap at h2
      rw [if_pos (key h.2)] at h2
      simp at h2
    dsimp only
    split
    · intro h
      exact k2 _ (List.append_eq_nil_iff.1 h).1
    · exact k2 _
theorem mem_sumW : ∀ (L : List Nat) (x : Nat), x ∈ L → x ≤ L.sum
  | [], x, h => by simp at h
  | a :: r, x, h => by
    rcases List.mem_cons.1 h with rfl | h
    · simp
    · have := mem_sumW r x h; simp; omega
theorem putR_putG (R : List Int) (k : Nat) (H : List Int) (y : Int) : putR (putR R k H) (putG k H) [y] = putR R k (H ++ [y]) := by
  by_cases h : H = []
  · subst h; rfl
  · have e : putG k H = 0 := by unfold putG; rw [if_neg h]
    rw [e, putR_zero, putR_more h]
theorem start_put2 (R H : List Int) (k : Nat) {y : Int} (hy : isOfB y 8 = false) : startB (putR R k (H ++ [y])) 0 := fun _ => by
  rw [endI_putR (by simp), lastI_append (by simp)]; exact hy
theorem term_all {W0 : Bas} {wb : Nat} {K : WK} {T : List Cel} {N : List (List Int)} {M : Nat} (hE : EnvK W0 wb K T N M) : ∀ (f : Nat) (c : Cel) (kk : Fo) (v : Value), (Fo.node c kk .nil).ok → FoA (W0.may wb) W0.t (.node c kk .nil) [v] → kk.cells.length + 1 ≤ f → kk.cells.length + 1 ≤ 2000 → ∀ p, 0 ≤ p → p ≤ 1200 → TermAt W0 wb K v p (textF T N K.2.2.2.2 f (c, kk) p)
  | 0, c, kk, v, hok, hfo, hf, hl, p, hp0, hp1 => by omega
  | f + 1, c, kk, v, hok, hfo, hf, hl, p, hp0, hp1 => by
    have ih := term_all hE f
    have hgd := text_good (T := T) (N := N) K.2.2.2.2 (fun j hj => ⟨(hE.tab.op j hj).1, (hE.tab.op j hj).2.1⟩) hE.names.2.2.2 f
    have hcb := hok.1
    simp only [cellB, decide_eq_true_eq] at hcb
    have hfo' : FoIn (strikeA (W0.may wb) W0.t) 0 (.node c kk .nil) [v] := hfo
    obtain ⟨v', vr, e, hn, _⟩ := hfo'
    obtain ⟨rfl, rfl⟩ := List.cons.inj e
    have hnode := FoA.nodeK hok hfo
    rcases hn with ⟨h, rfl⟩ | ⟨h, rfl⟩ | ⟨h, rfl⟩ | ⟨h, b, g, vs, rfl, _, _, c0, c1, hg, cg, hk⟩
    · have e : textF T N K.2.2.2.2 (f + 1) (c, kk) p = varW N c.2.1 := by
        show (if c.1 = 0 then varW N c.2.1 else _) = _
        rw [if_pos h]
      rw [e]
      exact term_var hE.names hE.tabs c.2.1 (by omega) (by omega) p
    · have e : textF T N K.2.2.2.2 (f + 1) (c, kk) p = decW c.2.1 := by
        show (if c.1 = 0 then varW N c.2.1 else if c.1 = 1 then decW c.2.1 else _) = _
        rw [if_neg (by omega), if_pos h]
      rw [e]
      exact term_num hE.names hE.tabs c.2.1 (by omega) (by omega) p
    · have e : textF T N K.2.2.2.2 (f + 1) (c, kk) p = atomW K.2.2.2.2 c.2.2 := by
        show (if c.1 = 0 then varW N c.2.1 else if c.1 = 1 then decW c.2.1 else if c.1 = 2 then atomW K.2.2.2.2 c.2.2 else _) = _
        rw [if_neg (by omega), if_neg (by omega), if_pos h]
      rw [e]
      exact term_atom hE.names hE.tabs c.2.2 hok.2.1 (by omega) p
    · have hcnt : c.2.1 = kk.count := hok.2.2.1 h
      have hvl := FoIn.count kk vs hk
      have hCK : CompK W0 wb b g vs.length c.2.2 := fun W hW => ⟨(grown_cells hW).1 _ _ c0, (grown_cells hW).1 _ _ c1⟩
      have hWW : WwK W0 wb K T b (topI T c) := fun W hW => ww_all (hE.ops W hW) hE.tab c kk hok _ (hnode.2 W hW)
      have hcell : ∀ W, W0.grownBy W (some wb) → ∀ i, i < vs.length → W.cell? ⟨g, i, none⟩ = some (vs.getD i .nilIface) := fun W hW i hi => (grown_cells hW).1 _ _ (cg i hi)
      have hkid : ∀ i, i < vs.length → KidG W0 wb K T (textF T N K.2.2.2.2 f) (kidW (c, kk) i) (vs.getD i .nilIface) := fun i hi => by
        obtain ⟨k1, k2, k3⟩ := kid_in hok hk i (by omega)
        have hi2 : 1 ≤ f := by omega
        obtain ⟨f', rfl⟩ : ∃ f', f = f' + 1 := ⟨f - 1, by omega⟩
        refine ⟨FoA.nodeK k1 k2, ?_, fun q h0 h1 => ih _ _ _ k1 k2 (by omega) (by omega) q h0 h1, fun q => (hgd _ q k1 (by simp only [itC, List.length_cons]; omega)).1, fun h0 => ?_, fun h2 q => ?_⟩
        · have h9 : FoIn (strikeA (W0.may wb) W0.t) 0 (kidW (c, kk) i).fo [vs.getD i .nilIface] := k2
          exact FoIn.iface h9
        · obtain ⟨t3, tnd, tnc, _⟩ := top_facts h0
          refine ⟨operW (textF T N K.2.2.2.2 f') T K.2.2.2.2 (kidW (c, kk) i) (opW T (topI T (kidW (c, kk) i).1)), fun q _ => ?_⟩
          conv => lhs; unfold textF
          rw [if_neg (by omega), if_neg (by omega), if_neg (by omega), if_neg tnd, if_neg tnc]
          unfold compW
          rw [if_neg (by omega)]
        · conv => lhs; unfold textF
          conv => rhs; unfold textF
          rw [if_neg (by omega), if_neg (by omega), if_pos h2, if_neg (by omega), if_neg (by omega), if_pos h2]
      have e : ∀ p, textF T N K.2.2.2.2 (f + 1) (c, kk) p = if c = dot then listW (textF T N K.2.2.2.2 f) (c, kk) else if c = curly then 123 :: (textF T N K.2.2.2.2 f (kidW (c, kk) 0) 1200 ++ [125]) else compW (textF T N K.2.2.2.2 f) T K.2.2.2.2 (c, kk) p := fun p => by
        conv => lhs; unfold textF
        rw [if_neg (by show ¬ c.1 = 0; omega), if_neg (by show ¬ c.1 = 1; omega), if_neg (by show ¬ c.1 = 2; omega)]
      rw [e]
      by_cases hd : c = dot
      · rw [if_pos hd]
        have ht : topI T c = -1 := by unfold topI; rw [if_pos (.inr (.inl hd))]
        have h2 : vs.length = 2 := by rw [hd] at hcnt; have e2 : (dot.2.1 : Int) = 2 := rfl; omega
        refine term_comp b p _ fun w R k hR hlX hst hs => comp_list hWW hCK p (by rw [ht]; decide) R k _ ((str_eq hok.2.1 [46]).2 (by rw [hd]; rfl)) h2 (fun W hW => list_any hE.tabs _ c kk b hok (by omega) hd hfo ?_ ?_ R k hR hlX W hW) w hs
        · intro x v' hx hxo hxf
          obtain ⟨hsz, hone⟩ := split_sizeW _ c kk (Nat.le_refl _) hok
          have h1 := hone hd
          have hxl : x.2.cells.length + 1 ≤ kk.cells.length := by
            rcases hx with hx | rfl
            · have := mem_sumW _ _ (List.mem_map_of_mem (f := fun x => (itC x).length) hx)
              simp only [itC, List.length_cons] at this hsz
              omega
            · simp only [itC, List.length_cons] at hsz
              omega
          exact ih x.1 x.2 v' hxo hxf (by omega) (by omega) 999 (by omega) (by omega)
        · intro x hx
          obtain ⟨hsz, hone⟩ := split_sizeW _ c kk (Nat.le_refl _) hok
          obtain ⟨o1, o2⟩ := split_in _ c kk (Nat.le_refl _) hok
          have hxo : x.fo.ok := by
            rcases hx with hx | rfl
            · exact o1 x hx
            · exact o2
          have hxl : (itC x).length ≤ 2000 := by
            rcases hx with hx | rfl
            · have := mem_sumW _ _ (List.mem_map_of_mem (f := fun x => (itC x).length) hx)
              omega
            · omega
          exact (hgd x 999 hxo hxl).1
      · rw [if_neg hd]
        by_cases hcu : c = curly
        · rw [if_pos hcu]
          have ht : topI T c = -1 := by unfold topI; rw [if_pos (.inr (.inr (.inl hcu)))]
          have h1 : vs.length = 1 := by rw [hcu] at hcnt; have e2 : (curly.2.1 : Int) = 1 := rfl; omega
          have hk0 := hkid 0 (by omega)
          obtain ⟨vt, vx, ev⟩ := hk0.ifc
          have b123 : Byte [123] := fun x hx => by simp at hx; omega
          have b125 : Byte [125] := fun x hx => by simp at hx; omega
          have hY := hk0.byt 1200
          have hW0 := hk0.wr 1200 (by omega) (by omega)
          rw [ev] at hW0
          generalize textF T N K.2.2.2.2 f (kidW (c, kk) 0) 1200 = Y at hY hW0
          refine term_comp b p _ fun w R k hR hlX hst hs => ?_
          have eF : putR R k [123] ++ (Y ++ [125]) = putR R k (123 :: (Y ++ [125])) := by rw [putR_more (by simp)]; rfl
          have hlt := hlX
          rw [← eF] at hlt
          simp only [List.length_append] at hlt
          have hR1 : Byte (putR R k [123]) := byte_putR hR b123
          refine comp_curly hWW hCK p (by rw [ht]; decide) R k _ (by simp) ((str_eq hok.2.1 [123, 125]).2 (by rw [hcu]; rfl)) h1 vt vx (fun W hW => by rw [← ev]; exact hcell W hW 0 (by omega)) (putR R k [123]) Y ?_ ?_ ?_ w hs
          · exact fun W hW => put_ws hE.tabs hR b123 (by omega) rfl rfl W hW
          · exact fun W hW => hW0 W _ 0 hR1 (by rw [putR_zero, List.length_append]; omega) (start_put R k rfl) (hE.tabs.tab _ (WSx.gr hW)) (hE.tabs.pow _ (WSx.gr hW)) hW
          · exact fun W k1 hW => put_ws hE.tabs (byte_app hR1 hY) b125 (by rw [putR_close (.inr (.inr (.inr (.inr (.inl rfl)))))]; simp only [List.length_append]; omega) (by rw [putR_close (.inr (.inr (.inr (.inr (.inl rfl))))), ← eF]; simp) rfl W hW
        · rw [if_neg hcu]
          by_cases h0 : 0 ≤ topI T c
          · obtain ⟨_, _, _, j, hj, ej, hkind⟩ := top_facts h0
            have hG := hE.tab.op j hj
            have eo : opW T (topI T c) = T.getD j Cel.none := by rw [ej]; simp [opW]
            have eo2 : opW T (j : Int) = T.getD j Cel.none := by simp [opW]
            rw [eo2] at hkind
            have hne := oper_ne (textF T N K.2.2.2.2 f) T K.2.2.2.2 (c, kk) hG.2.1
            have hnn : (vs.length = 2 ∧ preB (T.getD j Cel.none).2.1 = false ∧ infB (T.getD j Cel.none).2.1 = true) ∨ (vs.length = 1 ∧ (preB (T.getD j Cel.none).2.1 = true ∨ (preB (T.getD j Cel.none).2.1 = false ∧ infB (T.getD j Cel.none).2.1 = false))) := by
              rcases hkind with ⟨k2, k3⟩ | ⟨k2, k3, k4⟩
              · exact .inl ⟨by omega, k3⟩
              · exact .inr ⟨by omega, k4⟩
            have hZ : ∀ p', (opW T (topI T c)).1 ≤ p' → TermAt W0 wb K (.iface 108 (.pointer (some ⟨b, 0, none⟩))) p' (operW (textF T N K.2.2.2.2 f) T K.2.2.2.2 (c, kk) (opW T (topI T c))) := fun p' hp' =>
              term_comp b p' _ fun w R k hR hlX hst hs => comp_oper hWW hCK p' h0 hp' R k _ (by rw [eo]; exact hne) (fun W hW => by
                rw [eo] at hlX ⊢
                exact oper_any hE _ c kk _ hG.1 hG.2.1 hG.2.2.1 hG.2.2.2 g vs hcell hnn hkid R k hR hst hlX W hW) w hs
            have hpr := top_pri hE.tab h0
            unfold compW
            rw [if_neg (by show ¬ topI T c < 0; omega)]
            by_cases hlt : p < (opW T (topI T c)).1
            · rw [if_pos hlt]
              have hZb : Byte (operW (textF T N K.2.2.2.2 f) T K.2.2.2.2 (c, kk) (opW T (topI T c))) := by
                have h9 := (text_good (T := T) (N := N) K.2.2.2.2 (fun j hj => ⟨(hE.tab.op j hj).1, (hE.tab.op j hj).2.1⟩) hE.names.2.2.2 (f + 1) (c, kk) 1200 hok (by simp only [itC, List.length_cons]; omega)).1
                rw [e 1200, if_neg hd, if_neg hcu] at h9
                unfold compW at h9
                rw [if_neg (by show ¬ topI T c < 0; omega), if_neg (by show ¬ (1200 : Int) < (opW T (topI T c)).1; omega)] at h9
                exact h9
              exact term_comp b p _ fun w R k hR hlX hst hs => comp_par hWW hCK p h0 hlt R k _ (fun W hW => inParens_any hE.tabs _ _ _ hZb (hZ 1200 hpr.2) W R k hR hlX hW) w hs
            · rw [if_neg hlt]
              exact hZ p (by omega)
          · have h00 : topI T c < 0 := by omega
            have e9 : compW (textF T N K.2.2.2.2 f) T K.2.2.2.2 (c, kk) p = headW K.2.2.2.2 c.2.2 ++ [40] ++ joinW ((trs kk).map (textF T N K.2.2.2.2 f · 999)) ++ [41] := by
              unfold compW
              rw [if_pos (show topI T c < 0 from h00)]; rfl
            rw [e9]
            obtain ⟨H, eH⟩ : ∃ H, H = headW K.2.2.2.2 c.2.2 := ⟨_, rfl⟩
            obtain ⟨J, eJ⟩ : ∃ J, J = joinW ((trs kk).map (textF T N K.2.2.2.2 f · 999)) := ⟨_, rfl⟩
            have hcl : c.2.2.length ≤ 100 := by omega
            have hHb : Byte H := by rw [eH]; exact (head_good K.2.2.2.2 hok.2.1 hcl).1
            have hXl : ((trs kk).map (textF T N K.2.2.2.2 f · 999)).length = vs.length := by rw [List.length_map, trs_len, hvl]
            have hXi : ∀ i, i < vs.length → ((trs kk).map (textF T N K.2.2.2.2 f · 999)).getD i [] = textF T N K.2.2.2.2 f (kidW (c, kk) i) 999 := fun i hi => by
              have h9 : i < (trs kk).length := by rw [trs_len]; omega
              unfold kidW
              simp [List.getD, h9]
            have hJb : Byte J := by
              rw [eJ]
              refine join_byte _ fun a ha => ?_
              obtain ⟨x, hx, rfl⟩ := List.mem_map.1 ha
              have := trs_le kk x hx
              exact (hgd x 999 (trs_okW hok.2.2.2.2.1 x hx) (by omega)).1
            rw [← eH, ← eJ]
            have b40 : Byte [40] := fun x hx => by simp at hx; omega
            have b41 : Byte [41] := fun x hx => by simp at hx; omega
            have hcnt2 := Fo.count_le kk
            refine term_comp b p _ fun w R k hR hlX hst hs => ?_
            have hne : H ++ [40] ≠ [] := by simp
            have eF : putR R k (H ++ [40]) ++ (J ++ [41]) = putR R k (H ++ [40] ++ J ++ [41]) := by rw [putR_more hne]; simp
            have hlt := hlX
            rw [← eF] at hlt
            simp only [List.length_append] at hlt
            have hm := putR_mono R k H [40]
            have hR2 : Byte (putR R k (H ++ [40])) := byte_putR hR (byte_app hHb b40)
            refine comp_plain hWW hCK p h00 R k _ (by simp) (fun h9 => hd ?_) (fun h9 => hcu ?_) (by omega) (putR R k H) (putR R k (H ++ [40])) J (putG k H) (strOfNums H) ?_ ?_ ?_ ?_ ?_ w hs
            · have h8 := (str_eq hok.2.1 [46]).1 h9.1
              exact Prod.ext h (Prod.ext (by show c.2.1 = 2; omega) (by show c.2.2 = [46]; simpa using h8))
            · have h8 := (str_eq hok.2.1 [123, 125]).1 h9.1
              exact Prod.ext h (Prod.ext (by show c.2.1 = 1; omega) (by show c.2.2 = [123, 125]; simpa using h8))
            · intro W hW
              obtain ⟨p1, n1, c1', hW1⟩ := hW
              have h8 := compName_any hW1 c.2.2 hok.2.1 hcl (hE.tabs.tab _ hW1.gr)
              rw [← head_eq K.2.2.2.2 c.2.2 hcl, ← eH] at h8
              exact h8
            · exact fun W hW => put_ws hE.tabs hR hHb (by omega) rfl rfl W hW
            · exact fun W hW => put_ws hE.tabs (byte_putR hR hHb) b40 (by rw [putR_putG]; omega) (putR_putG R k H 40) rfl W hW
            · intro W hW
              have h8 := terms_any hE.tabs g vs.length vs.length vs ((trs kk).map (textF T N K.2.2.2.2 f · 999)) (by omega) hXl W (putR R k (H ++ [40])) 0 (fun W2 hg2 hk2 i hi => by
                obtain ⟨vt, vx, ev⟩ := (hkid i hi).ifc
                exact ⟨vt, vx, ev, hcell W2 hg2 i hi⟩) (fun i hi => by rw [hXi i hi]; exact (hkid i hi).wr 999 (by omega) (by omega)) (fun i hi => by rw [hXi i hi]; exact (hkid i hi).byt 999) hR2 (by rw [putR_zero, ← eJ, List.length_append]; omega) (start_put2 R H k rfl) hW
              rw [← eJ] at h8
              exact h8
            · exact fun W k1 hW => put_ws hE.tabs (byte_app hR2 hJb) b41 (by rw [putR_close (.inl rfl)]; simp only [List.length_append]; omega) (by rw [putR_close (.inl rfl), ← eF]; simp) rfl W hW
end Go.Proofs.YtelcfcgdnebdgaaGreatDoor
