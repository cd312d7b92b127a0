/- Texts of Stk5, UnT1, UnT2. Own work of the verifier. -/
import Derived.Test.YtglebnelmnnboaaUqao
import Derived.Deep.LoopGhost
import Derived.Test.YtglebnelmnnboaaUqal
import Derived.Deep.RegionHeld3
import Derived.Deep.RegionWith
namespace Go.Proofs.Ytglebnelmnnboaa
open Go Go.RowKit
set_option linter.unusedVariables false

theorem open_any (W0 : World) (Bt : Nat) (w : World) (B sb so : Nat) (p : Option Addr) (n c : Nat) (st : List TT) (x : TT) (v1 v2 : Value) (h : Stk W0 Bt w B sb so p n c st) (hW : Below W0.heap.size W0 w) (hB0 : W0.heap.size ≤ B) (hBs : B ≤ sb) (hn : n ≤ 1000000)
    (hx1 : FoIn W0 Bt x.1.fo [v1]) (hx2 : FoIn W0 Bt x.2.fo [v2]) (ho1 : x.1.ok) (ho2 : x.2.ok) :
    Calls Try.prog 64 #[.pointer (some ⟨sb, so, none⟩), .agg #[v1, v2]] w (OpenOut W0 Bt w B sb so (Value.ownBlock (.slice p n c)) st x) := by
  by_cases h3 : x.1.1.1 = 3 ∧ x.2.1.1 = 3
  · obtain ⟨u1, r1, e1, hn1, _⟩ := hx1
    obtain ⟨rfl, rfl⟩ := List.cons.inj e1
    obtain ⟨u2, r2, e2, hn2, _⟩ := hx2
    obtain ⟨rfl, rfl⟩ := List.cons.inj e2
    have comp : ∀ {c : Cel} {k : Fo} {v : Value}, NodeIn W0 Bt c (fun kv => FoIn W0 Bt k kv) v → c.1 = 3 → ∃ b g vs, v = .iface 108 (.pointer (some ⟨b, 0, none⟩)) ∧ CompAt W0 Bt c.2.2 k b g vs := fun {c k v} hn h => by
      rcases hn with ⟨e, _⟩ | ⟨e, _⟩ | ⟨e, _⟩ | ⟨_, b, g, vs, hv, hc⟩
      · omega
      · omega
      · omega
      · exact ⟨b, g, vs, hv, hc⟩
    obtain ⟨b1, g1, vs1, rfl, hc1⟩ := comp hn1 h3.1
    obtain ⟨b2, g2, vs2, rfl, hc2⟩ := comp hn2 h3.2
    exact callsIn_wide.1 (openComp_wide W0 Bt w B sb so p n c st x b1 g1 b2 g2 vs1 vs2 h hW hB0 hBs hn hc1 hc2 ho1 ho2 h3.1 h3.2)
  · exact openLeaf_any W0 Bt w B sb so p n c st x v1 v2 h hx1 hx2 ho1 ho2 h3

/-- A stack of one pair, just made: its row, and its box. -/
theorem Stk.made {W0 : World} {Bt : Nat} (w : World) (x : TT) (v1 v2 : Value) (t : TypeId) (h1 : FoIn W0 Bt x.1.fo [v1]) (h2 : FoIn W0 Bt x.2.fo [v2]) :
    Stk W0 Bt ((w.alloc (.cells #[v1, v2] 91)).alloc (.cells #[.slice (some ⟨w.heap.size, 0, none⟩) 1 1] t)) w.heap.size (w.heap.size + 1) 0 (some ⟨w.heap.size, 0, none⟩) 1 1 [x] := by
  have hb := heap_alloc_new (w.alloc (.cells #[v1, v2] 91)) (.cells #[.slice (some ⟨w.heap.size, 0, none⟩) 1 1] t)
  rw [World.size_alloc] at hb
  have hr : ((w.alloc (.cells #[v1, v2] 91)).alloc (.cells #[.slice (some ⟨w.heap.size, 0, none⟩) 1 1] t)).heap[w.heap.size]? = some (.cells #[v1, v2] 91) := (Below.heap_alloc _ _ _ (by simp)).trans (heap_alloc_new _ _)
  refine ⟨cell_of_row _ _ 0 _ _ _ hb, frozen_of_row _ _ 0 _ _ hb, rfl, ⟨[(v1, v2)], ⟨rfl, .inr ⟨w.heap.size, 1, #[v1, v2], rfl, Nat.le_refl _, hr, Nat.le_refl _, by decide, rfl, rfl⟩⟩, ⟨_, [], rfl, h1, h2, rfl⟩⟩, fun g e => by cases e; omega⟩

set_option maxRecDepth 100000 in
set_option maxHeartbeats 1000000 in
theorem isSame_any (W0 : World) (Bt : Nat) (w : World) (x : TT) (v1 v2 : Value) (hW : Below W0.heap.size W0 w) (hx1 : FoIn W0 Bt x.1.fo [v1]) (hx2 : FoIn W0 Bt x.2.fo [v2]) (ho1 : x.1.ok) (ho2 : x.2.ok) (hl : x.1.2.cells.length ≤ 10000) :
    Calls Try.prog 36 #[v1, v2] w fun e w' => e = .returned (.bool (eqT x)) ∧ Below w.heap.size w w' := by
  obtain ⟨t1, y1, rfl⟩ := FoIn.iface (show FoIn W0 Bt (.node x.1.1 x.1.2 .nil) [v1] from hx1)
  obtain ⟨t2, y2, rfl⟩ := FoIn.iface (show FoIn W0 Bt (.node x.2.1 x.2.2 .nil) [v2] from hx2)
  have HS : Hid _ := Stk.made w x (.iface t1 y1) (.iface t2 y2) 93 hx1 hx2
  have HB : Hid (∀ a b, Below w.heap.size w ((w.alloc a).alloc b)) := fun a b => ((Below.refl _ _).alloc (Nat.le_refl _) _).alloc (by simp) _
  have HW : Hid (Below W0.heap.size W0 w) := hW
  have HOK : Hid (x.1.ok ∧ x.2.ok) := ⟨ho1, ho2⟩
  have HE : Hid (sames [x] = eqT x) := by simp [sames, Hid]
  obtain ⟨R, eR⟩ : ∃ R, R = eqT x := ⟨_, rfl⟩
  rw [← eR] at HE ⊢
  clear hW hx1 hx2 ho1 ho2 eR
  go_enter Try.func36, Try.ntmps36
  go_wp2
  go_loopg [] (load [x]) (fun k wr => ∃ (p : Option Addr) (n c : Nat) (st : List TT), wr.cell? ⟨w.heap.size + 1, 0, none⟩ = some (.slice p n c) ∧ n ≤ 100000 ∧ Hid (Stk W0 Bt wr w.heap.size (w.heap.size + 1) 0 p n c st ∧ (∀ y ∈ st, y.1.ok ∧ y.2.ok) ∧ load st = k ∧ k ≤ 20000 ∧ sames st = R ∧ Below w.heap.size w wr))
  case atStart => exact ⟨_, _, _, [x], HS.out.cell, by decide, HS.out, fun y hy => by rw [List.mem_singleton.1 hy]; exact HOK.out, rfl, by simp [load]; omega, HE.out, HB.out _ _⟩
  case round =>
    obtain ⟨p, n, c, st, hcell, hn, HR⟩ := hrel
    rcases List.eq_nil_or_concat st with rfl | ⟨st', y, rfl⟩
    · have hn0 : n = 0 := HR.out.1.len
      subst hn0
      have HF : Hid (R = true) := HR.out.2.2.2.2.1.symm
      go_wp2
      go_ret
      exact ⟨ret_bool HF.out.symm, HR.out.2.2.2.2.2⟩
    · rw [List.concat_eq_append] at HR
      have hst := HR.out.1
      have hlen := hst.len
      have hn1 : n = st'.length + 1 := by rw [hlen]; simp
      have hpos : (0 : Int) < (n : Int) := by omega
      have HT := take_any W0 Bt wr w.heap.size (w.heap.size + 1) 0 p n c st' y (by omega) hst
      have hoy : y.1.ok ∧ y.2.ok := HR.out.2.1 y (by simp)
      have HOY : Hid (y.1.ok ∧ y.2.ok) := hoy
      have HBwr : Hid (w.heap.size + 1 < wr.heap.size) := World.block_lt_of_cell? _ _ hcell
      have hrl : ∀ k, Value.ownBlock (.slice p n c) = some k → w.heap.size ≤ k := fun k e => by
        obtain ⟨_, hr, _⟩ := hst.row
        exact (hr.lt k e).1
      have HRL : Hid (∀ k, Value.ownBlock (.slice p n c) = some k → w.heap.size ≤ k) := hrl
      have HN1 : Hid (n = st'.length + 1) := hn1
      clear hst hlen hn1 hoy hrl
      go_wp2_with fail
      refine HT.mono ?_
      rintro e w1 ⟨v1, v2, rfl, f1, f2, ⟨p', n', c', hs', hrow'⟩, hk⟩
      have hB1 : Below w.heap.size w w1 := HR.out.2.2.2.2.2.trans (hk.below (by omega) (fun k e => by cases e) (by have := HBwr.out; omega))
      have HO := open_any W0 Bt w1 w.heap.size (w.heap.size + 1) 0 p' n' c' st' y v1 v2 hs' (HW.out.trans (hB1.mono HW.out.size)) HW.out.size (by omega) (by have := hs'.len; have := HN1.out; omega) f1 f2 HOY.out.1 HOY.out.2
      have HRL' : Hid (∀ k, Value.ownBlock (.slice p' n' c') = some k → w.heap.size ≤ k) := by show ∀ k, _ → _; rw [hrow']; exact HRL.out
      have HB1 : Hid (Below w.heap.size w w1) := hB1
      clear hs' hrow' hk hB1 HT f1 f2
      by_cases hy : y.1.1 = y.2.1
      · have hd : decide (y.1.1 = y.2.1) = true := by simpa using hy
        unfold OpenOut at HO
        rw [hd] at HO
        have HLD : Hid (load (st' ++ opened y) < gk ∧ sames (st' ++ opened y) = R ∧ (∀ z ∈ st' ++ opened y, z.1.ok ∧ z.2.ok)) := by
          obtain ⟨_, h2, h3, _, h5, _⟩ := HR.out
          refine ⟨?_, ?_, ?_⟩
          · have := load_opened y
            rw [← h3, load_append, load_append]
            simp [load]; omega
          · rw [sames_open _ _ hy (ok_count HOY.out.1 HOY.out.2 hy)]; exact h5
          · intro z hz
            rcases List.mem_append.1 hz with hz | hz
            · exact h2 z (by simp [hz])
            · exact opened_ok HOY.out.1 HOY.out.2 z hz
        clear hd hy
        go_wp2_with fail
        refine HO.mono ?_
        rintro e w2 ⟨rfl, ⟨p2, n2, c2, hs2, _⟩, hk2⟩
        have HS2 : Hid _ := hs2
        have HB2 : Hid (Below w.heap.size w w2) := HB1.out.trans (hk2.below (by omega) HRL'.out (by have := HB1.out.size; omega))
        clear hk2 HO hs2
        go_wp2_with fail
        go_roundg (load (st' ++ opened y))
        case measure => exact HLD.out.1
        case rel =>
          have h4 := HR.out.2.2.2.1
          have h1 := HLD.out.1
          exact ⟨p2, n2, c2, st' ++ opened y, HS2.out.cell, by have := HS2.out.len; have := len_load (st' ++ opened y); omega, HS2.out, HLD.out.2.2, rfl, by omega, HLD.out.2.1, HB2.out⟩
      · have hd : decide (y.1.1 = y.2.1) = false := by simpa using hy
        unfold OpenOut at HO
        rw [hd] at HO
        have HF : Hid (R = false) := by show _ = _; rw [← HR.out.2.2.2.2.1, sames_no _ _ hy]
        clear hd hy
        go_wp2_with fail
        refine HO.mono ?_
        rintro e w2 ⟨rfl, _, hk2⟩
        have HB2 : Hid (Below w.heap.size w w2) := HB1.out.trans (hk2.below (by omega) HRL'.out (by have := HB1.out.size; omega))
        clear hk2 HO
        go_wp2_with fail
        go_ret
        exact ⟨ret_bool HF.out.symm, HB2.out⟩

end Go.Proofs.Ytglebnelmnnboaa

namespace Go.Proofs.Ytglebnelmnnboaa
open Go Go.RowKit
set_option linter.unusedVariables false

theorem VMap.noCells {w : World} {b N : Nat} {E : List (Int × Value)} (h : VMap w b N E) : ∃ o : Obj, w.heap[b]? = some o ∧ o.isCells = false := by
  obtain ⟨D, ⟨es, clock, h1, _⟩, _⟩ := h
  exact ⟨_, h1, rfl⟩
/-- The map of what has been solved: nothing yet. -/
def Slv (W0 W : World) (b ub : Nat) : Prop := ∃ s, s ≠ b ∧ W0.heap.size ≤ s ∧ W.cell? ⟨ub, 1, none⟩ = some (.map (some s)) ∧ VMap W s 0 []
theorem Slv.grown {W0 W W' : World} {b ub r : Nat} (h : Slv W0 W b ub) (hg : W.grownBy W' (some r)) (hu : ub ≠ r) (hr : r = b ∨ ∃ o v, W.cell? ⟨r, o, none⟩ = some v) : Slv W0 W' b ub := by
  obtain ⟨s, h1, h2, h3, h4⟩ := h
  have hsr : s ≠ r := fun e => by
    rcases hr with rfl | ⟨o, v, hv⟩
    · exact h1 e
    · exact cell_map_ne hv h4 e.symm
  exact ⟨s, h1, h2, cell_grown h3 hg hu, h4.of_block (hg.block s h4.lt (fun e => hsr (Option.some.inj e)))⟩
theorem Slv.kept2 {W0 W W' : World} {b ub : Nat} {g : Option Nat} (h : Slv W0 W b ub) (hk : Kept2 W W' ub 2 g) (hg : ∀ k, g = some k → ∃ o : Obj, W.heap[k]? = some o ∧ o.isCells = true) : Slv W0 W' b ub := by
  obtain ⟨s, h1, h2, h3, h4⟩ := h
  refine ⟨s, h1, h2, by rw [hk.cells 1 (by decide)]; exact h3, h4.of_block (hk.block s h4.lt (cell_map_ne h3 h4).symm (fun e => ?_))⟩
  obtain ⟨o, ho, hc⟩ := hg s e.symm
  obtain ⟨o', ho', hc'⟩ := h4.noCells
  rw [ho] at ho'
  cases ho'
  rw [hc] at hc'
  cases hc'
/-- The unifier: what variables stand for, and the pairs that are left. -/
structure USt (W0 : World) (Bt : Nat) (P : BM) (E : List (Int × Value)) (b ub : Nat) (st : List TT) (W : World) : Prop where
  low : Below W0.heap.size W0 W
  ubc : W.cell? ⟨ub, 0, none⟩ = some (.map (some b))
  bnd : VMap W b E.length E
  bmi : BMIn W0 Bt P E
  stk : ∃ p n c, Stk W0 Bt W W0.heap.size ub 2 p n c st
  hb : W0.heap.size ≤ b
  hu : W0.heap.size ≤ ub
  slv : Slv W0 W b ub
theorem USt.grown {W0 : World} {Bt : Nat} {P P' : BM} {E E' : List (Int × Value)} {b ub : Nat} {st : List TT} {W W' : World} (h : USt W0 Bt P E b ub st W) (hg : W.grownBy W' (some b)) (hm : VMap W' b E'.length E') (hi : BMIn W0 Bt P' E') : USt W0 Bt P' E' b ub st W' := by
  obtain ⟨p, n, c, hs⟩ := h.stk
  exact ⟨h.low.grown hg h.low.size (fun k e => by cases e; exact h.hb), cell_grown h.ubc hg (cell_map_ne h.ubc h.bnd), hm, hi, ⟨p, n, c, hs.kept hg (fun r e => by cases e; exact h.bnd.noCells)⟩, h.hb, h.hu, h.slv.grown hg (cell_map_ne h.ubc h.bnd) (.inl rfl)⟩
theorem USt.keeps {W0 : World} {Bt : Nat} {P : BM} {E : List (Int × Value)} {b ub : Nat} {st : List TT} {W W' : World} (h : USt W0 Bt P E b ub st W) (hg : W.grownBy W' none) : USt W0 Bt P E b ub st W' :=
  h.grown (E' := E) (W' := W') ⟨hg.os, hg.tape, hg.output, hg.size, fun k hk _ => hg.block k hk (by simp)⟩ (h.bnd.of_block (hg.block b h.bnd.lt (by simp))) h.bmi
theorem USt.opened {W0 : World} {Bt : Nat} {P : BM} {E : List (Int × Value)} {b ub : Nat} {st st' : List TT} {W W' : World} {p0 : Option Addr} {n0 c0 : Nat} (h : USt W0 Bt P E b ub st W) (hs : Stk W0 Bt W W0.heap.size ub 2 p0 n0 c0 st) (hs' : ∃ p n c, Stk W0 Bt W' W0.heap.size ub 2 p n c st') (hk : Kept2 W W' ub 2 (Value.ownBlock (.slice p0 n0 c0))) : USt W0 Bt P E b ub st' W' := by
  have hrow : ∀ k, Value.ownBlock (.slice p0 n0 c0) = some k → W0.heap.size ≤ k := fun k e => by
    obtain ⟨_, hr, _⟩ := hs.row
    exact (hr.lt k e).1
  have hbg : some b ≠ Value.ownBlock (.slice p0 n0 c0) := fun e => by
    obtain ⟨o, ho, hc⟩ := h.bnd.noCells
    obtain ⟨_, hr, _⟩ := hs.row
    rcases hr.2 with ⟨h', _⟩ | ⟨g', cap', cur, hv, _, hh, _⟩
    · cases h'; cases e
    · cases hv
      simp [Value.ownBlock] at e
      subst e
      rw [ho] at hh
      cases hh
      cases hc
  refine ⟨h.low.trans ((hk.below h.hu hrow h.low.size)), ?_, h.bnd.of_block (hk.block b h.bnd.lt (cell_map_ne h.ubc h.bnd).symm hbg), h.bmi, hs', h.hb, h.hu, h.slv.kept2 hk (fun k e => ?_)⟩
  · rw [hk.cells 0 (by decide)]; exact h.ubc
  · obtain ⟨_, hr, _⟩ := hs.row
    rcases hr.2 with ⟨h', _⟩ | ⟨g', cap', cur, hv, _, hh, _⟩
    · cases h'; cases e
    · cases hv
      simp [Value.ownBlock] at e
      subst e
      exact ⟨_, hh, rfl⟩
/-- Ways cut short hold no greater trees. -/
theorem OnWay.small {M : BM} (hM : ∀ x u, M x = some u → (tcs u).length ≤ 2000) {a b : Tr} (h : OnWay M a b) : (tcs a).length ≤ 2000 → (tcs b).length ≤ 2000 := by
  induction h with
  | here => exact id
  | on _ hm _ ih => exact fun _ => ih (hM _ _ hm)
theorem Cut.small {P M : BM} (hc : Cut P M) (hwf : WfU M) (hM : ∀ x u, M x = some u → (tcs u).length ≤ 2000) : ∀ x u, P x = some u → u.fo.ok ∧ (tcs u).length ≤ 2000 := fun x u hp => by
  refine ⟨(hc.wf hwf).ok x u hp, ?_⟩
  cases hm : M x with
  | none => rw [hc.1 x hm] at hp; cases hp
  | some z =>
    obtain ⟨u', hp', hw⟩ := hc.2 x z hm
    rw [hp] at hp'
    cases hp'
    exact hw.small hM (hM x z hm)
theorem EndB.small {M : BM} (hM : ∀ x u, M x = some u → (tcs u).length ≤ 2000) {a e : Tr} (h : EndB M a e) (ha : (tcs a).length ≤ 2000) : (tcs e).length ≤ 2000 := h.way.small hM ha
theorem var_cell {t : Tr} (h : t.fo.ok) (h0 : t.1.1 = 0) : t.1 = (0, t.1.2.1, []) ∧ 0 ≤ t.1.2.1 ∧ t.1.2.1 ≤ 1000000 := by
  have hcb := h.1
  rw [h0] at hcb
  simp [cellB] at hcb
  obtain ⟨⟨k, n, s⟩, F⟩ := t
  simp only at h0 hcb ⊢
  subst h0
  refine ⟨?_, hcb.1, hcb.2.1⟩
  have hs : s = [] := by
    have := hcb.2.2
    cases s with
    | nil => rfl
    | cons a r => simp at this
  rw [hs]
/-- What step does. -/
def StepOut (W0 : World) (Bt : Nat) (M : BM) (b ub : Nat) (L : Nat) (st : List TT) (x y : Tr) (e : Ending) (w' : World) : Prop := match stepE 4 5 M (endB M x) (endB M y) with
  | .error c => e = .returned (.int .i64 c) ∧ Below W0.heap.size W0 w'
  | .ok (M', qs) => e = .returned (.int .i64 0) ∧ ∃ P' E', Cut P' M' ∧ USt W0 Bt P' E' b ub (st ++ qs.reverse) w' ∧ E'.length ≤ L + 1
/-- Two that are one but for their arguments. -/
theorem step_same {M : BM} {X Y : Tr} (h : X.1 = Y.1) (oX : X.fo.ok) (oY : Y.fo.ok) : stepE 4 5 M X Y = .ok (M, (opened (X, Y)).reverse) := by
  have ho : (opened (X, Y)).reverse = (trs X.2).zip (trs Y.2) := by simp [opened, argPairs, h]
  rw [ho]
  unfold stepE
  by_cases h0 : X.1.1 = 0
  · have h1 : Y.1.1 = 0 := by rw [← h]; exact h0
    have hn : X.1.2.1 = Y.1.2.1 := by rw [h]
    have k1 : X.2 = .nil := oX.2.2.2.1 (by rw [h0]; decide)
    have k2 : Y.2 = .nil := oY.2.2.2.1 (by rw [h1]; decide)
    simp [h0, h1, hn, k1, k2, trs]
  · have h1 : Y.1.1 ≠ 0 := by rw [← h]; exact h0
    simp [h1, h]

end Go.Proofs.Ytglebnelmnnboaa

namespace Go.Proofs.Ytglebnelmnnboaa
open Go Go.RowKit
set_option linter.unusedVariables false

theorem frz_grown {w w' : World} {b mb : Nat} {v : Value} {o : Nat} (h : w.cell? ⟨b, o, none⟩ = some v) (hf : w.frozen? ⟨b, o, none⟩ = false) (hg : w.grownBy w' (some mb)) (hne : b ≠ mb) : w'.frozen? ⟨b, o, none⟩ = false := by
  have hlt := World.block_lt_of_cell? _ _ h
  exact (World.frozen?_of_block (a := ⟨b, o, none⟩) (hg.block b hlt (fun e => hne (Option.some.inj e)))).trans hf
theorem grown_setC (W : World) (b o : Nat) (v : Value) : W.grownBy (W.setCell ⟨b, o, none⟩ v) (some b) := ⟨rfl, rfl, rfl, by simp [World.setCell], fun k hk e => Below.heap_setCell _ _ _ _ (fun h => e (by rw [h]))⟩
theorem Stk.off {W0 : World} {Bt : Nat} {W W' : World} {B sb so r : Nat} {p : Option Addr} {n c : Nat} {st : List TT} (h : Stk W0 Bt W B sb so p n c st) (hg : W.grownBy W' (some r)) (h1 : sb ≠ r) (h2 : Value.ownBlock (.slice p n c) ≠ some r) : Stk W0 Bt W' B sb so p n c st := by
  obtain ⟨vs, hr, hp⟩ := h.row
  exact ⟨cell_grown h.cell hg h1, frz_grown h.cell h.free hg h1, h.len, ⟨vs, hr.kept hg (.inr h2), hp⟩, h.away⟩
/-- Behind the pair's own box has been written. -/
theorem USt.boxed {W0 : World} {Bt : Nat} {P : BM} {E : List (Int × Value)} {b ub bx : Nat} {st : List TT} {W : World} (h : USt W0 Bt P E b ub st W) {p : Option Addr} {n c : Nat} (hs : Stk W0 Bt W W0.heap.size ub 2 p n c st) (h1 : bx ≠ b) (h2 : ub ≠ bx) (h3 : Value.ownBlock (.slice p n c) ≠ some bx) (h4 : W0.heap.size ≤ bx) {o' : Nat} {v' : Value} (h5 : W.cell? ⟨bx, o', none⟩ = some v') (o : Nat) (v : Value) :
    USt W0 Bt P E b ub st (W.setCell ⟨bx, o, none⟩ v) ∧ Stk W0 Bt (W.setCell ⟨bx, o, none⟩ v) W0.heap.size ub 2 p n c st := by
  have hg := grown_setC W bx o v
  have hs' := hs.off hg h2 h3
  exact ⟨⟨h.low.grown hg h.low.size (fun k e => by cases e; exact h4), cell_grown h.ubc hg h2, h.bnd.of_block (hg.block b h.bnd.lt (fun e => h1 (Option.some.inj e).symm)), h.bmi, ⟨p, n, c, hs'⟩, h.hb, h.hu, h.slv.grown hg h2 (.inr ⟨_, _, h5⟩)⟩, hs'⟩
theorem open_yes {W0 : World} {Bt : Nat} {w w' : World} {B sb so : Nat} {g : Option Nat} {st : List TT} {X Y : Tr} {e : Ending} (h : OpenOut W0 Bt w B sb so g st (X, Y) e w') (hxy : X.1 = Y.1) : e = .returned (.bool true) ∧ (∃ p n c, Stk W0 Bt w' B sb so p n c (st ++ opened (X, Y))) ∧ Kept2 w w' sb so g := by
  obtain ⟨h1, ⟨p, n, c, h2, _⟩, h3⟩ := h
  exact ⟨h1.trans (ret_bool (by simpa using hxy)), ⟨p, n, c, h2⟩, h3⟩
theorem open_no {W0 : World} {Bt : Nat} {w w' : World} {B sb so : Nat} {g : Option Nat} {st : List TT} {X Y : Tr} {e : Ending} (h : OpenOut W0 Bt w B sb so g st (X, Y) e w') (hxy : ¬ X.1 = Y.1) : e = .returned (.bool false) ∧ (∃ p n c, Stk W0 Bt w' B sb so p n c st) ∧ Kept2 w w' sb so g := by
  obtain ⟨h1, ⟨p, n, c, h2, _⟩, h3⟩ := h
  have hop : st ++ opened (X, Y) = st := by simp [opened, hxy]
  rw [hop] at h2
  exact ⟨h1.trans (ret_bool (by simpa using hxy)), ⟨p, n, c, h2⟩, h3⟩
/-- Which of two that are not one is bound, and to what. -/
def Sel (W0 : World) (Bt : Nat) (M : BM) (X Y : Tr) (e : Ending) : Prop :=
  (∃ n to, e = .returned (.tuple #[.int .i64 n, to, .bool false]) ∧ stepE 4 5 M X Y = .error 4) ∨
  ∃ z T t y, e = .returned (.tuple #[.int .i64 z, .iface t y, .bool true]) ∧ FoIn W0 Bt T.fo [.iface t y] ∧ T.fo.ok ∧ (tcs T).length ≤ 2000 ∧ M z = none ∧ (0 ≤ z ∧ z ≤ 1000000) ∧ (Reach M T z → stepE 4 5 M X Y = .error 5) ∧ (¬ Reach M T z → stepE 4 5 M X Y = .ok (M.set z T, []))
theorem sel_of {W0 : World} {Bt : Nat} {M : BM} {X Y : Tr} {t1 t2 : TypeId} {y1 y2 : Value} {w w' : World} {e : Ending} (oX : X.fo.ok) (oY : Y.fo.ok) (sX : (tcs X).length ≤ 2000) (sY : (tcs Y).length ≤ 2000) (fX : FoIn W0 Bt X.fo [.iface t1 y1]) (fY : FoIn W0 Bt Y.fo [.iface t2 y2]) (hne : ¬ X.1 = Y.1) (lX : ∀ v, IsV X v → M v = none) (lY : ∀ v, IsV Y v → M v = none)
    (h : TbOut X Y (.iface t1 y1) (.iface t2 y2) w e w') : Sel W0 Bt M X Y e := by
  obtain ⟨⟨n, to, ok, rfl, h1, h2, h3⟩, _⟩ := h
  by_cases hx : X.1.1 = 0
  · have iX := ok_var oX hx
    obtain ⟨cX, rX⟩ := var_cell oX hx
    by_cases hy : Y.1.1 = 0
    · have iY := ok_var oY hy
      obtain ⟨cY, rY⟩ := var_cell oY hy
      have hn : X.1.2.1 ≠ Y.1.2.1 := fun e => hne (by rw [cX, cY, e])
      by_cases hlt : X.1.2.1 < Y.1.2.1
      · obtain ⟨rfl, rfl, rfl⟩ := h1 hy (fun _ => hlt)
        have hr : ¬ Reach M X Y.1.2.1 := fun hr => hn (reach_var iX (lX _ iX) hr).symm
        have he : stepE 4 5 M X Y = .ok (M.set Y.1.2.1 X, []) := by
          unfold stepE
          rw [if_pos ⟨hx, hy⟩, if_neg (by omega), if_pos hlt]
        exact .inr ⟨_, X, _, _, rfl, fX, oX, sX, lY _ iY, rY, fun h => absurd h hr, fun _ => he⟩
      · obtain ⟨rfl, rfl, rfl⟩ := h2 hx (fun _ => by omega)
        have hr : ¬ Reach M Y X.1.2.1 := fun hr => hn (reach_var iY (lY _ iY) hr)
        have he : stepE 4 5 M X Y = .ok (M.set X.1.2.1 Y, []) := by
          unfold stepE
          rw [if_pos ⟨hx, hy⟩, if_pos (by omega)]
        exact .inr ⟨_, Y, _, _, rfl, fY, oY, sY, lX _ iX, rX, fun h => absurd h hr, fun _ => he⟩
    · obtain ⟨rfl, rfl, rfl⟩ := h2 hx (fun h => absurd h hy)
      refine .inr ⟨_, Y, _, _, rfl, fY, oY, sY, lX _ iX, rX, fun h => ?_, fun h => ?_⟩
      · unfold stepE; rw [if_neg (fun h => hy h.2), if_pos hx, if_pos h]
      · unfold stepE; rw [if_neg (fun h => hy h.2), if_pos hx, if_neg h]
  · by_cases hy : Y.1.1 = 0
    · have iY := ok_var oY hy
      obtain ⟨cY, rY⟩ := var_cell oY hy
      obtain ⟨rfl, rfl, rfl⟩ := h1 hy (fun h => absurd h hx)
      refine .inr ⟨_, X, _, _, rfl, fX, oX, sX, lY _ iY, rY, fun h => ?_, fun h => ?_⟩
      · unfold stepE; rw [if_neg (fun h => hx h.1), if_neg hx, if_pos hy, if_pos h]
      · unfold stepE; rw [if_neg (fun h => hx h.1), if_neg hx, if_pos hy, if_neg h]
    · obtain rfl := h3 hx hy
      refine .inl ⟨n, to, rfl, ?_⟩
      unfold stepE; rw [if_neg (fun h => hx h.1), if_neg hx, if_neg hy, if_neg hne]
set_option maxRecDepth 100000 in
set_option maxHeartbeats 2000000 in
theorem step_any (W0 : World) (Bt : Nat) (M : BM) (hwf : WfU M) (hM : ∀ x u, M x = some u → (tcs u).length ≤ 2000) (b ub : Nat) (P : BM) (E : List (Int × Value)) (st : List TT) (x y : Tr) (v1 v2 : Value) (w : World) (hc : Cut P M) (ox : x.fo.ok) (oy : y.fo.ok) (lx : (tcs x).length ≤ 2000) (ly : (tcs y).length ≤ 2000)
    (fx : FoIn W0 Bt x.fo [v1]) (fy : FoIn W0 Bt y.fo [v2]) (h : USt W0 Bt P E b ub st w) (hE : E.length ≤ 19999) (hn : st.length ≤ 1000000) :
    Calls Try.prog 78 #[.pointer (some ⟨ub, 0, none⟩), .agg #[v1, v2]] w (StepOut W0 Bt M b ub E.length st x y) := by
  obtain ⟨t1, y1, rfl⟩ := FoIn.iface (show FoIn W0 Bt (.node x.1 x.2 .nil) [v1] from fx)
  obtain ⟨t2, y2, rfl⟩ := FoIn.iface (show FoIn W0 Bt (.node y.1 y.2 .nil) [v2] from fy)
  have hne : ub ≠ b := cell_map_ne h.ubc h.bnd
  have hbx : w.heap.size ≠ b := by have := h.bnd.lt; omega
  have hux : ub ≠ w.heap.size := by have := World.block_lt_of_cell? _ _ h.ubc; simp at this; omega
  obtain ⟨wd, ewd⟩ : ∃ wd, wd = (w.alloc (.cells #[.iface t1 y1, .iface t2 y2] 91)).drew := ⟨_, rfl⟩
  have hud : USt W0 Bt P E b ub st wd := by rw [ewd]; exact h.keeps (gdrew (World.grownBy_alloc w _ none))
  have kk : wd.cell? ⟨w.heap.size, 0, none⟩ = some (.iface t1 y1) ∧ wd.cell? ⟨w.heap.size, 1, none⟩ = some (.iface t2 y2) := by
    rw [ewd]
    exact ⟨cell_of_row _ _ 0 _ _ _ (heap_alloc_new w _), cell_of_row _ _ 1 _ _ _ (heap_alloc_new w _)⟩
  have kf : wd.frozen? ⟨w.heap.size, 0, none⟩ = false ∧ wd.frozen? ⟨w.heap.size, 1, none⟩ = false := by
    rw [ewd]
    exact ⟨frozen_of_row _ _ 0 _ _ (heap_alloc_new w _), frozen_of_row _ _ 1 _ _ (heap_alloc_new w _)⟩
  obtain ⟨p0, n0, c0, hs0⟩ := h.stk
  have HOB : Hid (Value.ownBlock (.slice p0 n0 c0) ≠ some w.heap.size) := fun e => by
    obtain ⟨_, hr, _⟩ := hs0.row
    have := (hr.lt _ e).2
    omega
  have HSD : Hid (Stk W0 Bt wd W0.heap.size ub 2 p0 n0 c0 st) := by
    rw [ewd]
    exact hs0.kept (gdrew (World.grownBy_alloc w _ none)) (fun r e => by cases e)
  have HLW : Hid (W0.heap.size ≤ w.heap.size) := h.low.size
  have HX : Hid (EndB P x (endB M x)) := by have := (hc.wf hwf).endB x; rw [hc.endB hwf x] at this; exact this
  have HF1 : Hid (Calls Try.prog 86 #[.pointer (some ⟨ub, 0, none⟩), .iface t1 y1] wd (FolOut W0 Bt M b E.length (endB M x) wd)) := follow_any W0 Bt M hwf b ub hne HX.out (.iface t1 y1) E wd hc ox fx hud.bmi hud.bnd (by omega) hud.ubc
  have HF2 : Hid (∀ P1 E1 w1, Cut P1 M → USt W0 Bt P1 E1 b ub st w1 → E1.length = E.length → Calls Try.prog 86 #[.pointer (some ⟨ub, 0, none⟩), .iface t2 y2] w1 (FolOut W0 Bt M b E.length (endB M y) w1)) := fun P1 E1 w1 hc1 hu1 el1 => by
    have hy : EndB P1 y (endB M y) := by have := (hc1.wf hwf).endB y; rw [hc1.endB hwf y] at this; exact this
    rw [← el1]
    exact follow_any W0 Bt M hwf b ub hne hy (.iface t2 y2) E1 w1 hc1 oy fy hu1.bmi hu1.bnd (by omega) hu1.ubc
  have HUD : Hid (USt W0 Bt P E b ub st wd) := hud
  have HBX : Hid (w.heap.size ≠ b) := hbx
  have tok0 : True := trivial
  have tok1 : True := trivial
  have HN0 : Hid (n0 ≤ 1000000) := by rw [hs0.len]; exact hn
  have HOK : Hid ((endB M x).fo.ok ∧ (endB M y).fo.ok ∧ (tcs (endB M x)).length ≤ 2000 ∧ (tcs (endB M y)).length ≤ 2000) := ⟨hwf.end_ok ox (hwf.endB x), hwf.end_ok oy (hwf.endB y), (hwf.endB x).small hM lx, (hwf.endB y).small hM ly⟩
  have HLA : Hid ((∀ v, IsV (endB M x) v → M v = none) ∧ ∀ v, IsV (endB M y) v → M v = none) := ⟨(hwf.endB x).last, (hwf.endB y).last⟩
  have HWF : Hid (WfU M ∧ (∀ x u, M x = some u → (tcs u).length ≤ 2000) ∧ E.length ≤ 19999) := ⟨hwf, hM, hE⟩
  have HUX : Hid (ub ≠ w.heap.size) := hux
  have HRS : Hid (∀ e w', StepOut W0 Bt M b ub E.length st x y e w' = StepOut W0 Bt M b ub E.length st x y e w') := fun _ _ => rfl
  obtain ⟨X, eX⟩ : ∃ X, X = endB M x := ⟨_, rfl⟩
  obtain ⟨Y, eY⟩ : ∃ Y, Y = endB M y := ⟨_, rfl⟩
  have HSO : Hid (∀ e w', StepOut W0 Bt M b ub E.length st x y e w' ↔ match stepE 4 5 M X Y with
    | .error c => e = .returned (.int .i64 c) ∧ Below W0.heap.size W0 w'
    | .ok (M', qs) => e = .returned (.int .i64 0) ∧ ∃ P' E', Cut P' M' ∧ USt W0 Bt P' E' b ub (st ++ qs.reverse) w' ∧ E'.length ≤ E.length + 1) := fun e w' => by rw [eX, eY]; exact Iff.rfl
  rw [← eX] at HF1 HOK HLA
  rw [← eY] at HF2 HOK HLA
  clear h hud HX hn hE hc ox oy lx ly fx fy hwf hM hne hbx hs0 eX eY hux HRS
  go_enter Try.func78, Try.ntmps78
  go_wp2_with fail
  obtain ⟨k0, k1⟩ := kk
  obtain ⟨m0, m1⟩ := kf
  rw [ewd] at k0 k1
  go_region_with
    (first
      | (go_at_call 86; have _t := tok0; rw [← ewd]; refine HF1.out.mono ?_; rintro e w1 ⟨u1, P1, E1, rfl, f1, hc1, bi1, bd1, el1, hg1⟩; obtain ⟨a1, z1, rfl⟩ := FoIn.iface (show FoIn W0 Bt (.node X.1 X.2 .nil) [u1] from f1); have HU1 : Hid (USt W0 Bt P1 E1 b ub st w1) := HUD.out.grown hg1 bd1 bi1; have HS1 : Hid (Stk W0 Bt w1 W0.heap.size ub 2 p0 n0 c0 st) := HSD.out.kept hg1 (fun r e => by cases e; exact HUD.out.bnd.noCells); rw [← ewd] at k0 k1; have m0 := frz_grown k0 m0 hg1 HBX.out; have m1 := frz_grown k1 m1 hg1 HBX.out; have k0 := cell_grown k0 hg1 HBX.out; have k1 := cell_grown k1 hg1 HBX.out; clear tok0)
      | (go_at_call 86; have _t := tok1; refine (HF2.out P1 E1 w1 hc1 HU1.out el1).mono ?_; rintro e w2 ⟨u2, P2, E2, rfl, f2, hc2, bi2, bd2, el2, hg2⟩; obtain ⟨a2, z2, rfl⟩ := FoIn.iface (show FoIn W0 Bt (.node Y.1 Y.2 .nil) [u2] from f2); have HU2 : Hid (USt W0 Bt P2 E2 b ub st w2) := HU1.out.grown hg2 bd2 bi2; have HS2 : Hid (Stk W0 Bt w2 W0.heap.size ub 2 p0 n0 c0 st) := HS1.out.kept hg2 (fun r e => by cases e; exact HU1.out.bnd.noCells); have m0 := frz_grown k0 m0 hg2 HBX.out; have m1 := frz_grown k1 m1 hg2 HBX.out; have k0 := cell_grown k0 hg2 HBX.out; have k1 := cell_grown k1 hg2 HBX.out; clear tok1))
  all_goals
    obtain ⟨hu3, hs3⟩ := HU2.out.boxed HS2.out HBX.out HUX.out HOB.out HLW.out k0 0 (.iface a1 z1)
    obtain ⟨hu4, hs4⟩ := hu3.boxed hs3 HBX.out HUX.out HOB.out HLW.out (o' := 1) (by rw [World.cell?_setCell_other _ _ _ _ (by simp)]; exact k1) 1 (.iface a2 z2)
    have q1 : ((w2.setCell ⟨w.heap.size, 0, none⟩ (.iface a1 z1)).setCell ⟨w.heap.size, 1, none⟩ (.iface a2 z2)).cell? ⟨w.heap.size, 1, none⟩ = some (.iface a2 z2) := World.cell?_setCell_same' _ _ _ (by rw [World.cell?_setCell_other _ _ _ _ (by simp)]; rw [k1]; rfl)
    have q0 : ((w2.setCell ⟨w.heap.size, 0, none⟩ (.iface a1 z1)).setCell ⟨w.heap.size, 1, none⟩ (.iface a2 z2)).cell? ⟨w.heap.size, 0, none⟩ = some (.iface a1 z1) := by rw [World.cell?_setCell_other _ _ _ _ (by simp)]; exact World.cell?_setCell_same' _ _ _ (by rw [k0]; rfl)
    obtain ⟨w3, e3⟩ : ∃ w3, w3 = (w2.setCell ⟨w.heap.size, 0, none⟩ (.iface a1 z1)).setCell ⟨w.heap.size, 1, none⟩ (.iface a2 z2) := ⟨_, rfl⟩
    rw [← e3] at hu4 hs4 q0 q1 ⊢
    have HU3 : Hid (USt W0 Bt P2 E2 b ub st w3.drew) := hu4.keeps (gdrew (.refl _ _))
    have HS3 : Hid (Stk W0 Bt w3.drew W0.heap.size ub 2 p0 n0 c0 st) := hs4.kept (gdrew (.refl _ none)) (fun r e => by cases e)
    have HF12 : Hid (FoIn W0 Bt X.fo [.iface a1 z1] ∧ FoIn W0 Bt Y.fo [.iface a2 z2]) := ⟨f1, f2⟩
    have HO := open_any W0 Bt w3.drew W0.heap.size ub 2 p0 n0 c0 st (X, Y) (.iface a1 z1) (.iface a2 z2) HS3.out HU3.out.low (Nat.le_refl _) HU3.out.hu HN0.out f1 f2 HOK.out.1 HOK.out.2.1
    have HC2 : Hid (Cut P2 M) := hc2
    have HE2 : Hid (E2.length = E.length) := el2
    clear hu3 hs3 hu4 hs4 k0 k1 m0 m1 e3 HU2 HS2 HU1 HS1 hc1 bi1 bd1 hg1 bi2 bd2 hg2 f1 f2 el1 el2 hc2 HF1 HF2 HUD HSD ewd
    by_cases hxy : X.1 = Y.1
    · have HFIN : Hid (∀ w', (∃ p n c, Stk W0 Bt w' W0.heap.size ub 2 p n c (st ++ opened (X, Y))) → Kept2 w3.drew w' ub 2 (Value.ownBlock (.slice p0 n0 c0)) → StepOut W0 Bt M b ub E.length st x y (.returned (.int .i64 0)) w') := fun w' h1 h2 => by
        refine (HSO.out _ _).2 ?_
        rw [step_same hxy HOK.out.1 HOK.out.2.1]
        refine ⟨rfl, P2, E2, HC2.out, ?_, by have := HE2.out; omega⟩
        rw [List.reverse_reverse]
        exact HU3.out.opened HS3.out h1 h2
      have HO2 := HO.mono (fun e w' h => open_yes h hxy)
      clear HO hxy HC2 HE2 HU3 HS3 HSO
      go_wp2_with fail
      go_region_with ((go_at_call 64; refine HO2.mono ?_; rintro e w4 ⟨rfl, hs4, hk4⟩))
      all_goals
        have HF : Hid (StepOut W0 Bt M b ub E.length st x y (.returned (.int .i64 0)) w4) := HFIN.out w4 hs4 hk4
        clear hs4 hk4
        go_wp2_with fail
        go_ret
        exact HF.out
    · have HO2 := HO.mono (fun e w' h => open_no h hxy)
      have HTB : Hid (∀ W, Calls Try.prog 87 #[.agg #[.iface a1 z1, .iface a2 z2]] W (fun e w' => Sel W0 Bt M X Y e ∧ W.grownBy w' none)) := fun W => (toBind_any W0 Bt X Y _ _ W HF12.out.1 HF12.out.2 (fun h => (var_cell HOK.out.1 h).2) (fun h => (var_cell HOK.out.2.1 h).2)).mono fun e w' h => ⟨sel_of HOK.out.1 HOK.out.2.1 HOK.out.2.2.1 HOK.out.2.2.2 HF12.out.1 HF12.out.2 hxy HLA.out.1 HLA.out.2 h, h.2⟩
      have HLT : Hid (w.heap.size < w3.drew.heap.size) := World.block_lt_of_cell? _ _ q0
      have HQ : Hid (w3.drew.cell? ⟨w.heap.size, 0, none⟩ = some (.iface a1 z1) ∧ w3.drew.cell? ⟨w.heap.size, 1, none⟩ = some (.iface a2 z2)) := ⟨q0, q1⟩
      clear HO hxy
      go_wp2_with fail
      go_region_with ((go_at_call 64; refine HO2.mono ?_; rintro e w4 ⟨rfl, hs4, hk4⟩))
      all_goals
        have HU4 : Hid (USt W0 Bt P2 E2 b ub st w4) := HU3.out.opened HS3.out hs4 hk4
        have hbk := hk4.block w.heap.size HLT.out (fun e => HUX.out e.symm) (fun e => HOB.out e.symm)
        have r0 : w4.cell? ⟨w.heap.size, 0, none⟩ = some (.iface a1 z1) := (World.cell?_of_block (a := ⟨w.heap.size, 0, none⟩) hbk).trans HQ.out.1
        have r1 : w4.cell? ⟨w.heap.size, 1, none⟩ = some (.iface a2 z2) := (World.cell?_of_block (a := ⟨w.heap.size, 1, none⟩) hbk).trans HQ.out.2
        clear hs4 hk4 hbk HU3 HS3 HO2 HQ
        go_wp2_with fail
        refine (HTB.out _).mono ?_
        rintro e w5 ⟨hsel, hg5⟩
        have HU5 : Hid (USt W0 Bt P2 E2 b ub st w5) := HU4.out.keeps hg5
        clear hg5 r0 r1 HU4
        rcases hsel with ⟨n, to, rfl, hst⟩ | ⟨z, T, t, yt, rfl, hfT, hoT, hsT, hz, hzr, hE1, hE2⟩
        · have HF : Hid (StepOut W0 Bt M b ub E.length st x y (.returned (.int .i64 4)) w5) := (HSO.out _ _).2 (by rw [hst]; exact ⟨rfl, HU5.out.low⟩)
          clear hst HSO HU5 HTB
          go_wp2_with fail
          go_ret
          exact HF.out
        · have HST := standsIn_any W0 Bt P2 E2 b ub HU5.out.bmi (HC2.out.small HWF.out.1 HWF.out.2.1) (by have := HE2.out; have := HWF.out.2.2; omega) z hzr T (.iface t yt) w5 hoT hsT hfT HU5.out.low HU5.out.ubc HU5.out.bnd
          have HRE : Hid (Reach P2 T z ↔ Reach M T z) := HC2.out.reach_eq HWF.out.1 hz T
          have HEE : Hid ((Reach M T z → stepE 4 5 M X Y = .error 5) ∧ (¬ Reach M T z → stepE 4 5 M X Y = .ok (M.set z T, []))) := ⟨hE1, hE2⟩
          have HZ : Hid (M z = none ∧ FoIn W0 Bt T.fo [.iface t yt]) := ⟨hz, hfT⟩
          clear hE1 hE2 hz hfT hoT hsT HTB
          go_wp2_with fail
          refine HST.mono ?_
          rintro e w6 ⟨r, rfl, hr, hg6⟩
          have hu6 := HU5.out.keeps hg6
          have HU6 : Hid (USt W0 Bt P2 E2 b ub st w6) := hu6
          have c6 := hu6.ubc
          obtain ⟨w7, hput, hm7, hg7⟩ := hu6.bnd.put (t := 89) Try.underlying89 (by have := HE2.out; have := HWF.out.2.2; omega) z hzr.1 hzr.2 (.iface t yt)
          have HU7 : Hid (USt W0 Bt (P2.set z T) (putE E2 z (.iface t yt)) b ub st w7) := hu6.grown hg7 hm7.tight (hu6.bmi.set HZ.out.2)
          have HR : Hid (r = true ↔ Reach P2 T z) := hr
          clear hr hg6 hu6 hm7 hg7 HST HU5
          cases r with
          | true =>
            have HF : Hid (StepOut W0 Bt M b ub E.length st x y (.returned (.int .i64 5)) w6) := (HSO.out _ _).2 (by rw [HEE.out.1 (HRE.out.1 (HR.out.1 rfl))]; exact ⟨rfl, HU6.out.low⟩)
            clear hput
            go_wp2_with fail
            go_ret
            exact HF.out
          | false =>
            have HF : Hid (StepOut W0 Bt M b ub E.length st x y (.returned (.int .i64 0)) w7) := (HSO.out _ _).2 (by
              rw [HEE.out.2 (fun h => by have := HR.out.2 (HRE.out.2 h); cases this)]
              have hl : (putE E2 z (.iface t yt)).length ≤ E.length + 1 := by
                have h1 := putE_len E2 z (.iface t yt)
                have h2 := HE2.out
                split at h1 <;> omega
              have hu : USt W0 Bt (P2.set z T) (putE E2 z (.iface t yt)) b ub (st ++ ([] : List TT).reverse) w7 := by simpa using HU7.out
              exact ⟨rfl, P2.set z T, putE E2 z (.iface t yt), HC2.out.bind HZ.out.1, hu, hl⟩)
            go_wp2_with fail
            go_ret
            exact HF.out

end Go.Proofs.Ytglebnelmnnboaa

