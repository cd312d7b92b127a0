/- Texts of UnT1, UnT2, UnR, UnP4. Own work of the verifier. -/
import Derived.Test.YtaakpdakeolgeaaGreatUqau
import Derived.Test.YtaakpdakeolgeaaGreatUqaw
import Derived.Deep.RegionHeld3
import Derived.Deep.RegionWith
import Derived.Test.YtaakpdakeolgeaaGreatUqat
namespace Go.Proofs.YtaakpdakeolgeaaGreat
open Go Go.RowKit
set_option linter.unusedVariables false
theorem VMap.noCells {w : World} {b N : Nat} {E : List (Int × Value)} (h : VMap w b N E) : ∃ o : Obj, w.heap[b]? = some o ∧ o.isCells = false := by
  obtain ⟨D, ⟨es, clock, h1, _⟩, _⟩ := h
  exact ⟨_, h1, rfl⟩
def Slv (W0 W : World) (b ub : Nat) : Prop := ∃ s, s ≠ b ∧ W0.heap.size ≤ s ∧ W.cell? ⟨ub, 1, none⟩ = some (.map (some s)) ∧ VMap W s 0 []
theorem Slv.grown {W0 W W' : World} {b ub r : Nat} (h : Slv W0 W b ub) (hg : W.grownBy W' (some r)) (hu : ub ≠ r) (hr : r = b ∨ ∃ o v, W.cell? ⟨r, o, none⟩ = some v) : Slv W0 W' b ub := by
  obtain ⟨s, h1, h2, h3, h4⟩ := h
  have hsr : s ≠ r := fun e => by
    rcases hr with rfl | ⟨o, v, hv⟩
    · exact h1 e
    · exact cell_map_ne hv h4 e.symm
  exact ⟨s, h1, h2, cell_grown h3 hg hu, h4.of_block (hg.block s h4.lt (fun e => hsr (Option.some.inj e)))⟩
theorem Slv.kept2 {W0 W W' : World} {b ub : Nat} {g : Option Nat} (h : Slv W0 W b ub) (hk : Kept2 W W' ub 2 g) (hg : ∀ k, g = some k → ∃ o : Obj, W.heap[k]? = some o ∧ o.isCells = true) : Slv W0 W' b ub := by
  obtain ⟨s, h1, h2, h3, h4⟩ := h
  refine ⟨s, h1, h2, by rw [hk.cells 1 (by decide)]; exact h3, h4.of_block (hk.block s h4.lt (cell_map_ne h3 h4).symm (fun e => ?_))⟩
  obtain ⟨o, ho, hc⟩ := hg s e.symm
  obtain ⟨o', ho', hc'⟩ := h4.noCells
  rw [ho] at ho'
  cases ho'
  rw [hc] at hc'
  cases hc'
structure USt (W0 : World) (Bt : Nat) (P : BM) (E : List (Int × Value)) (b ub : Nat) (st : List TT) (W : World) : Prop where
  low : Below W0.heap.size W0 W
  ubc : W.cell? ⟨ub, 0, none⟩ = some (.map (some b))
  bnd : VMap W b E.length E
  bmi : BMIn W0 Bt P E
  stk : ∃ p n c, Stk W0 Bt W W0.heap.size ub 2 p n c st
  hb : W0.heap.size ≤ b
  hu : W0.heap.size ≤ ub
  slv : Slv W0 W b ub
theorem USt.grown {W0 : World} {Bt : Nat} {P P' : BM} {E E' : List (Int × Value)} {b ub : Nat} {st : List TT} {W W' : World} (h : USt W0 Bt P E b ub st W) (hg : W.grownBy W' (some b)) (hm : VMap W' b E'.length E') (hi : BMIn W0 Bt P' E') : USt W0 Bt P' E' b ub st W' := by
  obtain ⟨p, n, c, hs⟩ := h.stk
  exact ⟨h.low.grown hg h.low.size (fun k e => by cases e; exact h.hb), cell_grown h.ubc hg (cell_map_ne h.ubc h.bnd), hm, hi, ⟨p, n, c, hs.kept hg (fun r e => by cases e; exact h.bnd.noCells)⟩, h.hb, h.hu, h.slv.grown hg (cell_map_ne h.ubc h.bnd) (.inl rfl)⟩
theorem USt.keeps {W0 : World} {Bt : Nat} {P : BM} {E : List (Int × Value)} {b ub : Nat} {st : List TT} {W W' : World} (h : USt W0 Bt P E b ub st W) (hg : W.grownBy W' none) : USt W0 Bt P E b ub st W' :=
  h.grown (E' := E) (W' := W') ⟨hg.os, hg.tape, hg.output, hg.size, fun k hk _ => hg.block k hk (by simp)⟩ (h.bnd.of_block (hg.block b h.bnd.lt (by simp))) h.bmi
theorem USt.opened {W0 : World} {Bt : Nat} {P : BM} {E : List (Int × Value)} {b ub : Nat} {st st' : List TT} {W W' : World} {p0 : Option Addr} {n0 c0 : Nat} (h : USt W0 Bt P E b ub st W) (hs : Stk W0 Bt W W0.heap.size ub 2 p0 n0 c0 st) (hs' : ∃ p n c, Stk W0 Bt W' W0.heap.size ub 2 p n c st') (hk : Kept2 W W' ub 2 (Value.ownBlock (.slice p0 n0 c0))) : USt W0 Bt P E b ub st' W' := by
  have hrow : ∀ k, Value.ownBlock (.slice p0 n0 c0) = some k → W0.heap.size ≤ k := fun k e => by
    obtain ⟨_, hr, _⟩ := hs.row
    exact (hr.lt k e).1
  have hbg : some b ≠ Value.ownBlock (.slice p0 n0 c0) := fun e => by
    obtain ⟨o, ho, hc⟩ := h.bnd.noCells
    obtain ⟨_, hr, _⟩ := hs.row
    rcases hr.2 with ⟨h', _⟩ | ⟨g', cap', cur, hv, _, hh, _⟩
    · cases h'; cases e
    · cases hv
      simp [Value.ownBlock] at e
      subst e
      rw [ho] at hh
      cases hh
      cases hc
  refine ⟨h.low.trans ((hk.below h.hu hrow h.low.size)), ?_, h.bnd.of_block (hk.block b h.bnd.lt (cell_map_ne h.ubc h.bnd).symm hbg), h.bmi, hs', h.hb, h.hu, h.slv.kept2 hk (fun k e => ?_)⟩
  · rw [hk.cells 0 (by decide)]; exact h.ubc
  · obtain ⟨_, hr, _⟩ := hs.row
    rcases hr.2 with ⟨h', _⟩ | ⟨g', cap', cur, hv, _, hh, _⟩
    · cases h'; cases e
    · cases hv
      simp [Value.ownBlock] at e
      subst e
      exact ⟨_, hh, rfl⟩
theorem OnWay.small {M : BM} (hM : ∀ x u, M x = some u → (tcs u).length ≤ 2000) {a b : Tr} (h : OnWay M a b) : (tcs a).length ≤ 2000 → (tcs b).length ≤ 2000 := by
  induction h with
  | here => exact id
  | on _ hm _ ih => exact fun _ => ih (hM _ _ hm)
theorem Cut.small {P M : BM} (hc : Cut P M) (hwf : WfU M) (hM : ∀ x u, M x = some u → (tcs u).length ≤ 2000) : ∀ x u, P x = some u → u.fo.ok ∧ (tcs u).length ≤ 2000 := fun x u hp => by
  refine ⟨(hc.wf hwf).ok x u hp, ?_⟩
  cases hm : M x with
  | none => rw [hc.1 x hm] at hp; cases hp
  | some z =>
    obtain ⟨u', hp', hw⟩ := hc.2 x z hm
    rw [hp] at hp'
    cases hp'
    exact hw.small hM (hM x z hm)
theorem EndB.small {M : BM} (hM : ∀ x u, M x = some u → (tcs u).length ≤ 2000) {a e : Tr} (h : EndB M a e) (ha : (tcs a).length ≤ 2000) : (tcs e).length ≤ 2000 := h.way.small hM ha
theorem var_cell {t : Tr} (h : t.fo.ok) (h0 : t.1.1 = 0) : t.1 = (0, t.1.2.1, []) ∧ 0 ≤ t.1.2.1 ∧ t.1.2.1 ≤ 1000000 := by
  have hcb := h.1
  rw [h0] at hcb
  simp [cellB] at hcb
  obtain ⟨⟨k, n, s⟩, F⟩ := t
  simp only at h0 hcb ⊢
  subst h0
  refine ⟨?_, hcb.1, hcb.2.1⟩
  have hs : s = [] := by
    have := hcb.2.2
    cases s with
    | nil => rfl
    | cons a r => simp at this
  rw [hs]
theorem step_same {M : BM} {X Y : Tr} (h : X.1 = Y.1) (oX : X.fo.ok) (oY : Y.fo.ok) : stepE 4 5 M X Y = .ok (M, (opened (X, Y)).reverse) := by
  have ho : (opened (X, Y)).reverse = (trs X.2).zip (trs Y.2) := by simp [opened, argPairs, h]
  rw [ho]
  unfold stepE
  by_cases h0 : X.1.1 = 0
  · have h1 : Y.1.1 = 0 := by rw [← h]; exact h0
    have hn : X.1.2.1 = Y.1.2.1 := by rw [h]
    have k1 : X.2 = .nil := oX.2.2.2.1 (by rw [h0]; decide)
    have k2 : Y.2 = .nil := oY.2.2.2.1 (by rw [h1]; decide)
    simp [h0, h1, hn, k1, k2, trs]
  · have h1 : Y.1.1 ≠ 0 := by rw [← h]; exact h0
    simp [h1, h]
end Go.Proofs.YtaakpdakeolgeaaGreat

namespace Go.Proofs.YtaakpdakeolgeaaGreat
open Go Go.RowKit
set_option linter.unusedVariables false
theorem frz_grown {w w' : World} {b mb : Nat} {v : Value} {o : Nat} (h : w.cell? ⟨b, o, none⟩ = some v) (hf : w.frozen? ⟨b, o, none⟩ = false) (hg : w.grownBy w' (some mb)) (hne : b ≠ mb) : w'.frozen? ⟨b, o, none⟩ = false := by
  have hlt := World.block_lt_of_cell? _ _ h
  exact (World.frozen?_of_block (a := ⟨b, o, none⟩) (hg.block b hlt (fun e => hne (Option.some.inj e)))).trans hf
theorem grown_setC (W : World) (b o : Nat) (v : Value) : W.grownBy (W.setCell ⟨b, o, none⟩ v) (some b) := ⟨rfl, rfl, rfl, by simp [World.setCell], fun k hk e => Below.heap_setCell _ _ _ _ (fun h => e (by rw [h]))⟩
theorem Stk.off {W0 : World} {Bt : Nat} {W W' : World} {B sb so r : Nat} {p : Option Addr} {n c : Nat} {st : List TT} (h : Stk W0 Bt W B sb so p n c st) (hg : W.grownBy W' (some r)) (h1 : sb ≠ r) (h2 : Value.ownBlock (.slice p n c) ≠ some r) : Stk W0 Bt W' B sb so p n c st := by
  obtain ⟨vs, hr, hp⟩ := h.row
  exact ⟨cell_grown h.cell hg h1, frz_grown h.cell h.free hg h1, h.len, ⟨vs, hr.kept hg (.inr h2), hp⟩, h.away⟩
theorem USt.boxed {W0 : World} {Bt : Nat} {P : BM} {E : List (Int × Value)} {b ub bx : Nat} {st : List TT} {W : World} (h : USt W0 Bt P E b ub st W) {p : Option Addr} {n c : Nat} (hs : Stk W0 Bt W W0.heap.size ub 2 p n c st) (h1 : bx ≠ b) (h2 : ub ≠ bx) (h3 : Value.ownBlock (.slice p n c) ≠ some bx) (h4 : W0.heap.size ≤ bx) {o' : Nat} {v' : Value} (h5 : W.cell? ⟨bx, o', none⟩ = some v') (o : Nat) (v : Value) :
    USt W0 Bt P E b ub st (W.setCell ⟨bx, o, none⟩ v) ∧ Stk W0 Bt (W.setCell ⟨bx, o, none⟩ v) W0.heap.size ub 2 p n c st := by
  have hg := grown_setC W bx o v
  have hs' := hs.off hg h2 h3
  exact ⟨⟨h.low.grown hg h.low.size (fun k e => by cases e; exact h4), cell_grown h.ubc hg h2, h.bnd.of_block (hg.block b h.bnd.lt (fun e => h1 (Option.some.inj e).symm)), h.bmi, ⟨p, n, c, hs'⟩, h.hb, h.hu, h.slv.grown hg h2 (.inr ⟨_, _, h5⟩)⟩, hs'⟩
theorem open_yes {W0 : World} {Bt : Nat} {w w' : World} {B sb so : Nat} {g : Option Nat} {st : List TT} {X Y : Tr} {e : Ending} (h : OpenOut W0 Bt w B sb so g st (X, Y) e w') (hxy : X.1 = Y.1) : e = .returned (.bool true) ∧ (∃ p n c, Stk W0 Bt w' B sb so p n c (st ++ opened (X, Y))) ∧ Kept2 w w' sb so g := by
  obtain ⟨h1, ⟨p, n, c, h2, _⟩, h3⟩ := h
  exact ⟨h1.trans (ret_bool (by simpa using hxy)), ⟨p, n, c, h2⟩, h3⟩
theorem open_no {W0 : World} {Bt : Nat} {w w' : World} {B sb so : Nat} {g : Option Nat} {st : List TT} {X Y : Tr} {e : Ending} (h : OpenOut W0 Bt w B sb so g st (X, Y) e w') (hxy : ¬ X.1 = Y.1) : e = .returned (.bool false) ∧ (∃ p n c, Stk W0 Bt w' B sb so p n c st) ∧ Kept2 w w' sb so g := by
  obtain ⟨h1, ⟨p, n, c, h2, _⟩, h3⟩ := h
  have hop : st ++ opened (X, Y) = st := by simp [opened, hxy]
  rw [hop] at h2
  exact ⟨h1.trans (ret_bool (by simpa using hxy)), ⟨p, n, c, h2⟩, h3⟩
def Sel (W0 : World) (Bt : Nat) (M : BM) (X Y : Tr) (e : Ending) : Prop :=
  (∃ n to, e = .returned (.tuple #[.int .i64 n, to, .bool false]) ∧ stepE 4 5 M X Y = .error 4) ∨
  ∃ z T t y, e = .returned (.tuple #[.int .i64 z, .iface t y, .bool true]) ∧ FoIn W0 Bt T.fo [.iface t y] ∧ T.fo.ok ∧ (tcs T).length ≤ 2000 ∧ M z = none ∧ (0 ≤ z ∧ z ≤ 1000000) ∧ (Reach M T z → stepE 4 5 M X Y = .error 5) ∧ (¬ Reach M T z → stepE 4 5 M X Y = .ok (M.set z T, []))
theorem sel_of {W0 : World} {Bt : Nat} {M : BM} {X Y : Tr} {t1 t2 : TypeId} {y1 y2 : Value} {w w' : World} {e : Ending} (oX : X.fo.ok) (oY : Y.fo.ok) (sX : (tcs X).length ≤ 2000) (sY : (tcs Y).length ≤ 2000) (fX : FoIn W0 Bt X.fo [.iface t1 y1]) (fY : FoIn W0 Bt Y.fo [.iface t2 y2]) (hne : ¬ X.1 = Y.1) (lX : ∀ v, IsV X v → M v = none) (lY : ∀ v, IsV Y v → M v = none)
    (h : TbOut X Y (.iface t1 y1) (.iface t2 y2) w e w') : Sel W0 Bt M X Y e := by
  obtain ⟨⟨n, to, ok, rfl, h1, h2, h3⟩, _⟩ := h
  by_cases hx : X.1.1 = 0
  · have iX := ok_var oX hx
    obtain ⟨cX, rX⟩ := var_cell oX hx
    by_cases hy : Y.1.1 = 0
    · have iY := ok_var oY hy
      obtain ⟨cY, rY⟩ := var_cell oY hy
      have hn : X.1.2.1 ≠ Y.1.2.1 := fun e => hne (by rw [cX, cY, e])
      by_cases hlt : X.1.2.1 < Y.1.2.1
      · obtain ⟨rfl, rfl, rfl⟩ := h1 hy (fun _ => hlt)
        have hr : ¬ Reach M X Y.1.2.1 := fun hr => hn (reach_var iX (lX _ iX) hr).symm
        have he : stepE 4 5 M X Y = .ok (M.set Y.1.2.1 X, []) := by
          unfold stepE
          rw [if_pos ⟨hx, hy⟩, if_neg (by omega), if_pos hlt]
        exact .inr ⟨_, X, _, _, rfl, fX, oX, sX, lY _ iY, rY, fun h => absurd h hr, fun _ => he⟩
      · obtain ⟨rfl, rfl, rfl⟩ := h2 hx (fun _ => by omega)
        have hr : ¬ Reach M Y X.1.2.1 := fun hr => hn (reach_var iY (lY _ iY) hr)
        have he : stepE 4 5 M X Y = .ok (M.set X.1.2.1 Y, []) := by
          unfold stepE
          rw [if_pos ⟨hx, hy⟩, if_pos (by omega)]
        exact .inr ⟨_, Y, _, _, rfl, fY, oY, sY, lX _ iX, rX, fun h => absurd h hr, fun _ => he⟩
    · obtain ⟨rfl, rfl, rfl⟩ := h2 hx (fun h => absurd h hy)
      refine .inr ⟨_, Y, _, _, rfl, fY, oY, sY, lX _ iX, rX, fun h => ?_, fun h => ?_⟩
      · unfold stepE; rw [if_neg (fun h => hy h.2), if_pos hx, if_pos h]
      · unfold stepE; rw [if_neg (fun h => hy h.2), if_pos hx, if_neg h]
  · by_cases hy : Y.1.1 = 0
    · have iY := ok_var oY hy
      obtain ⟨cY, rY⟩ := var_cell oY hy
      obtain ⟨rfl, rfl, rfl⟩ := h1 hy (fun h => absurd h hx)
      refine .inr ⟨_, X, _, _, rfl, fX, oX, sX, lY _ iY, rY, fun h => ?_, fun h => ?_⟩
      · unfold stepE; rw [if_neg (fun h => hx h.1), if_neg hx, if_pos hy, if_pos h]
      · unfold stepE; rw [if_neg (fun h => hx h.1), if_neg hx, if_pos hy, if_neg h]
    · obtain rfl := h3 hx hy
      refine .inl ⟨n, to, rfl, ?_⟩
      unfold stepE; rw [if_neg (fun h => hx h.1), if_neg hx, if_neg hy, if_neg hne]
def BindU (W0 : World) (Bt : Nat) (M P : BM) (E : List (Int × Value)) (b ub : Nat) (st : List TT) (z : Int) (T : Tr) (v : Value) (e : Ending) (w' : World) : Prop :=
  (Reach M T z ∧ e = .returned (.int .i64 5) ∧ USt W0 Bt P E b ub st w') ∨
  (¬ Reach M T z ∧ e = .returned (.int .i64 0) ∧ USt W0 Bt (P.set z T) (putE E z v) b ub st w')
set_option maxRecDepth 100000 in
set_option maxHeartbeats 2000000 in
theorem bindU_any (W0 : World) (Bt : Nat) (M : BM) (hwf : WfU M) (hM : ∀ x u, M x = some u → (tcs u).length ≤ 2000) (b ub : Nat) (P : BM) (E : List (Int × Value)) (st : List TT) (z : Int) (T : Tr) (t : TypeId) (yt : Value) (w : World) (hc : Cut P M) (hz : M z = none) (hzr : 0 ≤ z ∧ z ≤ 1000000) (oT : T.fo.ok) (sT : (tcs T).length ≤ 2000)
    (fT : FoIn W0 Bt T.fo [.iface t yt]) (h : USt W0 Bt P E b ub st w) (hE : E.length ≤ 19999) :
    Calls Tryz.prog 59 #[.pointer (some ⟨ub, 0, none⟩), .int .i64 z, .iface t yt] w (BindU W0 Bt M P E b ub st z T (.iface t yt)) := by
  have HST := standsIn_any W0 Bt P E b ub h.bmi (hc.small hwf hM) (by omega) z hzr T (.iface t yt) w oT sT fT h.low h.ubc h.bnd
  have HRE : Hid (Reach P T z ↔ Reach M T z) := hc.reach_eq hwf hz T
  have HU : Hid (USt W0 Bt P E b ub st w) := h
  have HE : Hid (E.length ≤ 19999) := hE
  have HFT : Hid (FoIn W0 Bt T.fo [.iface t yt]) := fT
  clear h hE hc hwf hM fT
  go_enter Tryz.func59, Tryz.ntmps59
  go_wp2_with fail
  refine HST.mono ?_
  rintro e w6 ⟨r, rfl, hr, hg6⟩
  have hu6 := HU.out.keeps hg6
  have HU6 : Hid (USt W0 Bt P E b ub st w6) := hu6
  have c6 := hu6.ubc
  obtain ⟨w7, hput, hm7, hg7⟩ := hu6.bnd.put (t := 88) Tryz.underlying88 (by have := HE.out; omega) z hzr.1 hzr.2 (.iface t yt)
  have HU7 : Hid (USt W0 Bt (P.set z T) (putE E z (.iface t yt)) b ub st w7) := hu6.grown hg7 hm7.tight (hu6.bmi.set HFT.out)
  have HR : Hid (r = true ↔ Reach P T z) := hr
  clear hr hg6 hu6 hm7 hg7 HST HU
  cases r with
  | true =>
    have HF : Hid (BindU W0 Bt M P E b ub st z T (.iface t yt) (.returned (.int .i64 5)) w6) := .inl ⟨HRE.out.1 (HR.out.1 rfl), rfl, HU6.out⟩
    clear hput
    go_wp2_with fail
    go_ret
    exact HF.out
  | false =>
    have HF : Hid (BindU W0 Bt M P E b ub st z T (.iface t yt) (.returned (.int .i64 0)) w7) := .inr ⟨fun h => (by have := HR.out.2 (HRE.out.2 h); cases this), rfl, HU7.out⟩
    go_wp2_with fail
    go_ret
    exact HF.out
end Go.Proofs.YtaakpdakeolgeaaGreat

namespace Go.Proofs.YtaakpdakeolgeaaGreat
open Go Go.RowKit
set_option linter.unusedVariables false
theorem trs_small : ∀ (F : Fo) (t : Tr), t ∈ trs F → (tcs t).length ≤ F.cells.length
  | .nil, t, h => by cases h
  | .node c k r, t, h => by
    simp only [trs, List.mem_cons] at h
    simp only [Fo.cells, List.length_cons, List.length_append]
    rcases h with rfl | h
    · simp [tcs]
    · have := trs_small r t h
      omega
theorem step_small {M M' : BM} {X Y : Tr} {qs : List TT} (hM : ∀ x u, M x = some u → (tcs u).length ≤ 2000) (sX : (tcs X).length ≤ 2000) (sY : (tcs Y).length ≤ 2000) (oX : X.fo.ok) (h : stepE 4 5 M X Y = .ok (M', qs)) :
    (∀ x u, M' x = some u → (tcs u).length ≤ 2000) ∧ (∀ p ∈ qs, (tcs p.1).length ≤ 2000 ∧ (tcs p.2).length ≤ 2000) ∧ qs.length ≤ 20 := by
  have hset : ∀ z T, (tcs T).length ≤ 2000 → ∀ x u, M.set z T x = some u → (tcs u).length ≤ 2000 := fun z T hT x u hx => by
    simp only [BM.set] at hx
    by_cases e : x = z
    · rw [if_pos e] at hx; cases hx; exact hT
    · rw [if_neg e] at hx; exact hM x u hx
  have no : ∀ p ∈ ([] : List TT), (tcs p.1).length ≤ 2000 ∧ (tcs p.2).length ≤ 2000 := fun p hp => by cases hp
  unfold stepE at h
  split at h
  · split at h
    · cases h; exact ⟨hset _ _ sY, no, Nat.zero_le _⟩
    · split at h
      · cases h; exact ⟨hset _ _ sX, no, Nat.zero_le _⟩
      · cases h; exact ⟨hM, no, Nat.zero_le _⟩
  · split at h
    · split at h
      · cases h
      · cases h; exact ⟨hset _ _ sY, no, Nat.zero_le _⟩
    · split at h
      · split at h
        · cases h
        · cases h; exact ⟨hset _ _ sX, no, Nat.zero_le _⟩
      · split at h
        · cases h
          refine ⟨hM, fun p hp => ?_, ?_⟩
          · have h1 := trs_small _ _ (List.of_mem_zip (show (p.1, p.2) ∈ _ from hp)).1
            have h2 := trs_small _ _ (List.of_mem_zip (show (p.1, p.2) ∈ _ from hp)).2
            simp only [tcs, List.length_cons] at sX sY
            omega
          · rw [List.length_zip, trs_len]
            by_cases h3 : X.1.1 = 3
            · have h4 := oX.2.2.1 h3
              have h5 := oX.1
              rw [h3] at h5
              simp [cellB] at h5
              have : (X.2.count : Int) ≤ 20 := by rw [← h4]; exact h5.2.2
              omega
            · rw [oX.2.2.2.1 h3]; simp [Fo.count]
        · cases h
theorem step_codes {M : BM} {X Y : Tr} {c : Int} (h : stepE 4 5 M X Y = .error c) : c = 4 ∨ c = 5 := by
  unfold stepE at h
  split at h
  · split at h
    · cases h
    · split at h <;> cases h
  · split at h
    · split at h
      · cases h; exact .inr rfl
      · cases h
    · split at h
      · split at h
        · cases h; exact .inr rfl
        · cases h
      · split at h
        · cases h
        · cases h; exact .inl rfl
theorem USt.taken {W0 : World} {Bt : Nat} {P : BM} {E : List (Int × Value)} {b ub : Nat} {st st' : List TT} {W W' : World} (h : USt W0 Bt P E b ub st W) (hs' : ∃ p n c, Stk W0 Bt W' W0.heap.size ub 2 p n c st') (hk : Kept2 W W' ub 2 none) : USt W0 Bt P E b ub st' W' := by
  refine ⟨h.low.trans ((hk.below h.hu (fun k e => by cases e) h.low.size)), ?_, h.bnd.of_block (hk.block b h.bnd.lt (cell_map_ne h.ubc h.bnd).symm (by simp)), h.bmi, hs', h.hb, h.hu, h.slv.kept2 hk (fun k e => by cases e)⟩
  rw [hk.cells 0 (by decide)]; exact h.ubc
structure RI (W0 : World) (Bt b ub : Nat) (R : Except Int (BM × Nat)) (k : Nat) (M P : BM) (E : List (Int × Value)) (st : List TT) (W : World) : Prop where
  cut : Cut P M
  wf : WfU M
  small : ∀ x u, M x = some u → (tcs u).length ≤ 2000
  ust : USt W0 Bt P E b ub st W
  elen : E.length ≤ k
  slen : st.length ≤ 1 + 20 * k
  pairs : ∀ p ∈ st, (p.1.fo.ok ∧ p.2.fo.ok) ∧ (tcs p.1).length ≤ 2000 ∧ (tcs p.2).length ≤ 2000
  run : runU 4 5 3 (20000 - k) M st.reverse = R
def RunOut (W0 : World) (Bt b ub : Nat) (R : Except Int (BM × Nat)) (e : Ending) (w' : World) : Prop := match R with
  | .error c => (c = 3 ∨ c = 4 ∨ c = 5) ∧ e = .returned (.int .i64 c) ∧ Below W0.heap.size W0 w'
  | .ok (M, _) => e = .returned (.int .i64 0) ∧ WfU M ∧ (∀ x u, M x = some u → (tcs u).length ≤ 2000) ∧ ∃ P E, Cut P M ∧ USt W0 Bt P E b ub [] w' ∧ E.length ≤ 20000
theorem RI.next {W0 : World} {Bt b ub : Nat} {R : Except Int (BM × Nat)} {k : Nat} {M P : BM} {E : List (Int × Value)} {st' : List TT} {y : TT} {W : World} (h : RI W0 Bt b ub R k M P E (st' ++ [y]) W) (hk : k < 20000) :
    match stepE 4 5 M (endB M y.1) (endB M y.2) with
    | .error c => R = .error c
    | .ok (M', qs) => ∀ P' E' W', Cut P' M' → USt W0 Bt P' E' b ub (st' ++ qs.reverse) W' → E'.length ≤ E.length + 1 → RI W0 Bt b ub R (k + 1) M' P' E' (st' ++ qs.reverse) W' := by
  have hy := h.pairs y (by simp)
  have oX := h.wf.end_ok hy.1.1 (h.wf.endB y.1)
  have oY := h.wf.end_ok hy.1.2 (h.wf.endB y.2)
  have sX := (h.wf.endB y.1).small h.small hy.2.1
  have sY := (h.wf.endB y.2).small h.small hy.2.2
  have hrun := h.run
  rw [List.reverse_append, List.reverse_singleton, List.singleton_append, show 20000 - k = (19999 - k) + 1 by omega, runU] at hrun
  cases hs : stepE 4 5 M (endB M y.1) (endB M y.2) with
  | error c => rw [hs] at hrun; exact hrun.symm
  | ok r =>
    obtain ⟨M', qs⟩ := r
    rw [hs] at hrun
    simp only at hrun
    obtain ⟨w1, w2⟩ := h.wf.step (h.wf.endB y.1).last (h.wf.endB y.2).last oX oY hs
    obtain ⟨s1, s2, s3⟩ := step_small h.small sX sY oX hs
    intro P' E' W' hc hu hl
    refine ⟨hc, w1, s1, hu, by have := h.elen; omega, ?_, fun p hp => ?_, ?_⟩
    · have := h.slen
      simp only [List.length_append, List.length_singleton, List.length_reverse] at this ⊢
      omega
    · rcases List.mem_append.1 hp with hp | hp
      · exact h.pairs p (by simp [hp])
      · have hp' := List.mem_reverse.1 hp
        exact ⟨w2 p hp', s2 p hp'⟩
    · rw [List.reverse_append, List.reverse_reverse, show 20000 - (k + 1) = 19999 - k by omega]
      exact hrun
theorem USt.newBox {W0 : World} {Bt : Nat} {P : BM} {E : List (Int × Value)} {b ub : Nat} {st : List TT} {W : World} (h : USt W0 Bt P E b ub st W) {p : Option Addr} {n c : Nat} (hs : Stk W0 Bt W W0.heap.size ub 2 p n c st) (v1 v2 : Value) (W' : World) (e : W' = (W.alloc (.cells #[v1, v2] 92)).drew) :
    USt W0 Bt P E b ub st W' ∧ Stk W0 Bt W' W0.heap.size ub 2 p n c st ∧ W'.cell? ⟨W.heap.size, 0, none⟩ = some v1 ∧ W'.cell? ⟨W.heap.size, 1, none⟩ = some v2 ∧ W'.frozen? ⟨W.heap.size, 0, none⟩ = false ∧ W'.frozen? ⟨W.heap.size, 1, none⟩ = false ∧
    W.heap.size ≠ b ∧ ub ≠ W.heap.size ∧ Value.ownBlock (.slice p n c) ≠ some W.heap.size ∧ W0.heap.size ≤ W.heap.size := by
  subst e
  have hbx : W.heap.size ≠ b := by have := h.bnd.lt; omega
  have hux : ub ≠ W.heap.size := by have := World.block_lt_of_cell? _ _ h.ubc; simp at this; omega
  have hob : Value.ownBlock (.slice p n c) ≠ some W.heap.size := fun e => by
    obtain ⟨_, hr, _⟩ := hs.row
    have := (hr.lt _ e).2
    omega
  exact ⟨h.keeps (gdrew (World.grownBy_alloc W _ none)), hs.kept (gdrew (World.grownBy_alloc W _ none)) (fun r e => by cases e), cell_of_row _ _ 0 _ _ _ (heap_alloc_new W _), cell_of_row _ _ 1 _ _ _ (heap_alloc_new W _), frozen_of_row _ _ 0 _ _ (heap_alloc_new W _), frozen_of_row _ _ 1 _ _ (heap_alloc_new W _), hbx, hux, hob, h.low.size⟩
set_option maxRecDepth 100000 in
set_option maxHeartbeats 4000000 in
theorem workOff_any (W0 : World) (Bt b ub : Nat) (R : Except Int (BM × Nat)) (M P : BM) (E : List (Int × Value)) (st : List TT) (w : World) (h : RI W0 Bt b ub R 0 M P E st w) :
    Calls Tryz.prog 57 #[.pointer (some ⟨ub, 2, none⟩), .func (.func 58) #[.pointer (some ⟨ub, 0, none⟩)] #[], .func (.func 59) #[.pointer (some ⟨ub, 0, none⟩)] #[]] w (RunOut W0 Bt b ub R) := by
  obtain ⟨p0, n0, c0, hs0⟩ := h.ust.stk
  have c2 := hs0.cell
  have HL0 : Hid (n0 ≤ 400001) := by have := hs0.len; have := h.slen; show n0 ≤ _; omega
  have HI : Hid (RI W0 Bt b ub R 0 M P E st w ∧ Stk W0 Bt w W0.heap.size ub 2 p0 n0 c0 st) := ⟨h, hs0⟩
  clear h hs0
  go_enter Tryz.func57, Tryz.ntmps57
  go_wp2_with fail
  go_loopw [7] (fun i wr => ∃ (k : Nat) (M P : BM) (E : List (Int × Value)) (st : List TT) (p : Option Addr) (n c : Nat), k ≤ 20000 ∧ n ≤ 400001 ∧ i = .int .i64 k ∧ wr.cell? ⟨ub, 2, none⟩ = some (.slice p n c) ∧ Hid (RI W0 Bt b ub R k M P E st wr ∧ Stk W0 Bt wr W0.heap.size ub 2 p n c st)) (fun i _ => 20001 - (intOf i).toNat)
  case atStart => exact ⟨0, M, P, E, st, p0, n0, c0, by omega, HL0.out, rfl, c2, HI⟩
  case round =>
    obtain ⟨k, M, P, E, st, p, n, c, hk, hn, rfl, hcell, HR⟩ := hrel
    rcases List.eq_nil_or_concat st with rfl | ⟨st', y, rfl⟩
    · have hn0 : n = 0 := HR.out.2.len
      subst hn0
      have HF : Hid (RunOut W0 Bt b ub R (.returned (.int .i64 0)) wr) := by
        have h := HR.out.1
        have hr := h.run
        rw [List.reverse_nil, runU_nil] at hr
        rw [← hr]
        exact ⟨rfl, h.wf, h.small, P, E, h.cut, h.ust, by have := h.elen; omega⟩
      go_wp2_with fail
      go_ret
      exact HF.out
    · rw [List.concat_eq_append] at HR
      have hst := HR.out.2
      have hlen := hst.len
      have hpos : (0 : Int) < (n : Int) := by rw [hlen]; simp
      by_cases hk2 : k = 20000
      · subst hk2
        have HF : Hid (RunOut W0 Bt b ub R (.returned (.int .i64 3)) wr) := by
          have h := HR.out.1
          have hr := h.run
          rw [List.reverse_append, List.reverse_singleton, List.singleton_append, Nat.sub_self, runU] at hr
          rw [← hr]
          exact ⟨.inl rfl, rfl, h.ust.low⟩
        clear hst hlen HR
        go_wp2_with fail
        go_ret
        exact HF.out
      · have hk3 : k < 20000 := by omega
        have hk4 : ((k : Int) == 20000) = false := by simp; omega
        have HT := take_any W0 Bt wr W0.heap.size ub 2 p n c st' y (by omega) hst
        have HNX : Hid _ := HR.out.1.next hk3
        have HY : Hid _ := HR.out.1.pairs y (by simp)
        have HK : Hid (k < 20000) := hk3
        clear hst hlen hk2
        go_wp2_with fail
        refine HT.mono ?_
        rintro e w1 ⟨v1, v2, rfl, f1, f2, ⟨p', n', c', hs', hrow'⟩, hk'⟩
        have HU : Hid (USt W0 Bt P E b ub st' w1) := HR.out.1.ust.taken ⟨p', n', c', hs'⟩ hk'
        have HS : Hid (Stk W0 Bt w1 W0.heap.size ub 2 p' n' c' st') := hs'
        obtain ⟨t1, y1, rfl⟩ := FoIn.iface (show FoIn W0 Bt (.node y.1.1 y.1.2 .nil) [v1] from f1)
        obtain ⟨t2, y2, rfl⟩ := FoIn.iface (show FoIn W0 Bt (.node y.2.1 y.2.2 .nil) [v2] from f2)
        have HFF : Hid (FoIn W0 Bt y.1.fo [.iface t1 y1] ∧ FoIn W0 Bt y.2.fo [.iface t2 y2]) := ⟨f1, f2⟩
        clear hs' hrow' hk' f1 f2 HT
        have HWF : Hid (WfU M ∧ (∀ x u, M x = some u → (tcs u).length ≤ 2000) ∧ E.length ≤ 19999 ∧ Cut P M) := ⟨HR.out.1.wf, HR.out.1.small, by have := HR.out.1.elen; have := HK.out; omega, HR.out.1.cut⟩
        have HN0 : Hid (n' ≤ 1000000) := by have := HS.out.len; have := HR.out.1.slen; simp at this; show n' ≤ _; omega
        have HOK : Hid ((endB M y.1).fo.ok ∧ (endB M y.2).fo.ok ∧ (tcs (endB M y.1)).length ≤ 2000 ∧ (tcs (endB M y.2)).length ≤ 2000) := ⟨HWF.out.1.end_ok HY.out.1.1 (HWF.out.1.endB y.1), HWF.out.1.end_ok HY.out.1.2 (HWF.out.1.endB y.2), (HWF.out.1.endB y.1).small HWF.out.2.1 HY.out.2.1, (HWF.out.1.endB y.2).small HWF.out.2.1 HY.out.2.2⟩
        have HLA : Hid ((∀ v, IsV (endB M y.1) v → M v = none) ∧ ∀ v, IsV (endB M y.2) v → M v = none) := ⟨(HWF.out.1.endB y.1).last, (HWF.out.1.endB y.2).last⟩
        have HNE : Hid (ub ≠ b) := cell_map_ne HU.out.ubc HU.out.bnd
        have HF1 : Hid (∀ wd, USt W0 Bt P E b ub st' wd → Calls Tryz.prog 58 #[.pointer (some ⟨ub, 0, none⟩), .iface t1 y1] wd (FolOut W0 Bt M b E.length (endB M y.1) wd)) := fun wd hud => by
          have hX : EndB P y.1 (endB M y.1) := by have := (HWF.out.2.2.2.wf HWF.out.1).endB y.1; rw [HWF.out.2.2.2.endB HWF.out.1 y.1] at this; exact this
          exact follow_any W0 Bt M HWF.out.1 b ub HNE.out hX (.iface t1 y1) E wd HWF.out.2.2.2 HY.out.1.1 HFF.out.1 hud.bmi hud.bnd (by have := HWF.out.2.2.1; omega) hud.ubc
        have HF2 : Hid (∀ P1 E1 w1, Cut P1 M → USt W0 Bt P1 E1 b ub st' w1 → E1.length = E.length → Calls Tryz.prog 58 #[.pointer (some ⟨ub, 0, none⟩), .iface t2 y2] w1 (FolOut W0 Bt M b E.length (endB M y.2) w1)) := fun P1 E1 w1 hc1 hu1 el1 => by
          have hy : EndB P1 y.2 (endB M y.2) := by have := (hc1.wf HWF.out.1).endB y.2; rw [hc1.endB HWF.out.1 y.2] at this; exact this
          rw [← el1]
          exact follow_any W0 Bt M HWF.out.1 b ub HNE.out hy (.iface t2 y2) E1 w1 hc1 HY.out.1.2 HFF.out.2 hu1.bmi hu1.bnd (by have := HWF.out.2.2.1; omega) hu1.ubc
        obtain ⟨X, eX⟩ : ∃ X, X = endB M y.1 := ⟨_, rfl⟩
        obtain ⟨Y, eY⟩ : ∃ Y, Y = endB M y.2 := ⟨_, rfl⟩
        rw [← eX] at HF1 HOK HLA HNX
        rw [← eY] at HF2 HOK HLA HNX
        clear HR HY HFF eX eY HNE
        obtain ⟨wd, ewd⟩ : ∃ wd, wd = (w1.alloc (.cells #[.iface t1 y1, .iface t2 y2] 92)).drew := ⟨_, rfl⟩
        obtain ⟨hud, hsd, k0, k1, m0, m1, hbx, hux, hob, hlw⟩ := HU.out.newBox HS.out (.iface t1 y1) (.iface t2 y2) wd ewd
        have HUD : Hid (USt W0 Bt P E b ub st' wd) := hud
        have HSD : Hid (Stk W0 Bt wd W0.heap.size ub 2 p' n' c' st') := hsd
        have HBX : Hid (w1.heap.size ≠ b) := hbx
        have HUX : Hid (ub ≠ w1.heap.size) := hux
        have HOB : Hid (Value.ownBlock (.slice p' n' c') ≠ some w1.heap.size) := hob
        have HLW : Hid (W0.heap.size ≤ w1.heap.size) := hlw
        have HF1' := HF1.out wd hud
        have tok0 : True := trivial
        have tok1 : True := trivial
        clear hud hsd hbx hux hob hlw HU HS HF1
        go_wp2_with fail
        rw [ewd] at k0 k1
        go_region_with
          (first
            | (go_at_call 58; have _t := tok0; rw [← ewd]; refine HF1'.mono ?_; rintro e w2 ⟨u1, P1, E1, rfl, f1, hc1, bi1, bd1, el1, hg1⟩; obtain ⟨a1, z1, rfl⟩ := FoIn.iface (show FoIn W0 Bt (.node X.1 X.2 .nil) [u1] from f1); have HU1 : Hid (USt W0 Bt P1 E1 b ub st' w2) := HUD.out.grown hg1 bd1 bi1; have HS1 : Hid (Stk W0 Bt w2 W0.heap.size ub 2 p' n' c' st') := HSD.out.kept hg1 (fun r e => by cases e; exact HUD.out.bnd.noCells); rw [← ewd] at k0 k1; have m0 := frz_grown k0 m0 hg1 HBX.out; have m1 := frz_grown k1 m1 hg1 HBX.out; have k0 := cell_grown k0 hg1 HBX.out; have k1 := cell_grown k1 hg1 HBX.out; clear tok0)
            | (go_at_call 58; have _t := tok1; refine (HF2.out P1 E1 w2 hc1 HU1.out el1).mono ?_; rintro e w3 ⟨u2, P2, E2, rfl, f2, hc2, bi2, bd2, el2, hg2⟩; obtain ⟨a2, z2, rfl⟩ := FoIn.iface (show FoIn W0 Bt (.node Y.1 Y.2 .nil) [u2] from f2); have HU2 : Hid (USt W0 Bt P2 E2 b ub st' w3) := HU1.out.grown hg2 bd2 bi2; have HS2 : Hid (Stk W0 Bt w3 W0.heap.size ub 2 p' n' c' st') := HS1.out.kept hg2 (fun r e => by cases e; exact HU1.out.bnd.noCells); have m0 := frz_grown k0 m0 hg2 HBX.out; have m1 := frz_grown k1 m1 hg2 HBX.out; have k0 := cell_grown k0 hg2 HBX.out; have k1 := cell_grown k1 hg2 HBX.out; clear tok1))
        all_goals
          obtain ⟨hu3, hs3⟩ := HU2.out.boxed HS2.out HBX.out HUX.out HOB.out HLW.out k0 0 (.iface a1 z1)
          obtain ⟨hu4, hs4⟩ := hu3.boxed hs3 HBX.out HUX.out HOB.out HLW.out (o' := 1) (by rw [World.cell?_setCell_other _ _ _ _ (by simp)]; exact k1) 1 (.iface a2 z2)
          have q1 : ((w3.setCell ⟨w1.heap.size, 0, none⟩ (.iface a1 z1)).setCell ⟨w1.heap.size, 1, none⟩ (.iface a2 z2)).cell? ⟨w1.heap.size, 1, none⟩ = some (.iface a2 z2) := World.cell?_setCell_same' _ _ _ (by rw [World.cell?_setCell_other _ _ _ _ (by simp)]; rw [k1]; rfl)
          have q0 : ((w3.setCell ⟨w1.heap.size, 0, none⟩ (.iface a1 z1)).setCell ⟨w1.heap.size, 1, none⟩ (.iface a2 z2)).cell? ⟨w1.heap.size, 0, none⟩ = some (.iface a1 z1) := by rw [World.cell?_setCell_other _ _ _ _ (by simp)]; exact World.cell?_setCell_same' _ _ _ (by rw [k0]; rfl)
          obtain ⟨w4, e4⟩ : ∃ w4, w4 = (w3.setCell ⟨w1.heap.size, 0, none⟩ (.iface a1 z1)).setCell ⟨w1.heap.size, 1, none⟩ (.iface a2 z2) := ⟨_, rfl⟩
          rw [← e4] at hu4 hs4 q0 q1 ⊢
          have HU3 : Hid (USt W0 Bt P2 E2 b ub st' w4) := hu4
          have HS3 : Hid (Stk W0 Bt w4 W0.heap.size ub 2 p' n' c' st') := hs4
          have HF12 : Hid (FoIn W0 Bt X.fo [.iface a1 z1] ∧ FoIn W0 Bt Y.fo [.iface a2 z2]) := ⟨f1, f2⟩
          have HO := open_any W0 Bt w4 W0.heap.size ub 2 p' n' c' st' (X, Y) (.iface a1 z1) (.iface a2 z2) HS3.out HU3.out.low (Nat.le_refl _) HU3.out.hu HN0.out f1 f2 HOK.out.1 HOK.out.2.1
          have HC2 : Hid (Cut P2 M) := hc2
          have HE2 : Hid (E2.length = E.length) := el2
          clear hu3 hs3 hu4 hs4 k0 k1 m0 m1 e4 HU2 HS2 HU1 HS1 hc1 bi1 bd1 hg1 bi2 bd2 hg2 f1 f2 el1 el2 hc2 HF1' HF2 HUD HSD ewd
          by_cases hxy : X.1 = Y.1
          · have HFIN : Hid (∀ w', (∃ p n c, Stk W0 Bt w' W0.heap.size ub 2 p n c (st' ++ opened (X, Y))) → Kept2 w4 w' ub 2 (Value.ownBlock (.slice p' n' c')) → RI W0 Bt b ub R (k + 1) M P2 E2 (st' ++ opened (X, Y)) w') := fun w' h1 h2 => by
              have hn := HNX.out
              rw [step_same hxy HOK.out.1 HOK.out.2.1] at hn
              simp only [List.reverse_reverse] at hn
              exact hn P2 E2 w' HC2.out (HU3.out.opened HS3.out h1 h2) (by have := HE2.out; omega)
            have HO2 := HO.mono (fun e w' h => open_yes h hxy)
            clear HO hxy HC2 HE2 HU3 HS3 HNX
            go_wp2_with fail
            refine HO2.mono ?_
            rintro e w5 ⟨rfl, hs5, hk5⟩
            have hri := HFIN.out w5 hs5 hk5
            obtain ⟨p2, n2, c3, hs2⟩ := hs5
            have hc2 := hs2.cell
            have hn2 : n2 ≤ 400001 := by have := hs2.len; have := hri.slen; omega
            have HN : Hid (RI W0 Bt b ub R (k + 1) M P2 E2 (st' ++ opened (X, Y)) w5 ∧ Stk W0 Bt w5 W0.heap.size ub 2 p2 n2 c3 (st' ++ opened (X, Y))) := ⟨hri, hs2⟩
            clear hri hs2 hk5 HO2 HFIN
            go_wp2_with fail
            go_roundw
            case rel => exact ⟨k + 1, M, P2, E2, st' ++ opened (X, Y), p2, n2, c3, by omega, hn2, by go_num, hc2, HN⟩
            case measure => simp [intOf]; omega
          · have HO2 := HO.mono (fun e w' h => open_no h hxy)
            have HTB : Hid (∀ W, Calls Tryz.prog 77 #[.agg #[.iface a1 z1, .iface a2 z2]] W (fun e w' => Sel W0 Bt M X Y e ∧ W.grownBy w' none)) := fun W => (toBind_any W0 Bt X Y _ _ W HF12.out.1 HF12.out.2 (fun h => (var_cell HOK.out.1 h).2) (fun h => (var_cell HOK.out.2.1 h).2)).mono fun e w' h => ⟨sel_of HOK.out.1 HOK.out.2.1 HOK.out.2.2.1 HOK.out.2.2.2 HF12.out.1 HF12.out.2 hxy HLA.out.1 HLA.out.2 h, h.2⟩
            have HLT : Hid (w1.heap.size < w4.heap.size) := World.block_lt_of_cell? _ _ q0
            have HQ : Hid (w4.cell? ⟨w1.heap.size, 0, none⟩ = some (.iface a1 z1) ∧ w4.cell? ⟨w1.heap.size, 1, none⟩ = some (.iface a2 z2)) := ⟨q0, q1⟩
            clear HO hxy
            go_wp2_with fail
            refine HO2.mono ?_
            rintro e w5 ⟨rfl, hs5, hk5⟩
            have HU4 : Hid (USt W0 Bt P2 E2 b ub st' w5) := HU3.out.opened HS3.out hs5 hk5
            have hbk := hk5.block w1.heap.size HLT.out (fun e => HUX.out e.symm) (fun e => HOB.out e.symm)
            have r0 : w5.cell? ⟨w1.heap.size, 0, none⟩ = some (.iface a1 z1) := (World.cell?_of_block (a := ⟨w1.heap.size, 0, none⟩) hbk).trans HQ.out.1
            have r1 : w5.cell? ⟨w1.heap.size, 1, none⟩ = some (.iface a2 z2) := (World.cell?_of_block (a := ⟨w1.heap.size, 1, none⟩) hbk).trans HQ.out.2
            clear hs5 hk5 hbk HU3 HS3 HO2 HQ q0 q1
            go_wp2_with fail
            refine (HTB.out _).mono ?_
            rintro e w6 ⟨hsel, hg6⟩
            have HU5 : Hid (USt W0 Bt P2 E2 b ub st' w6) := HU4.out.keeps hg6
            clear hg6 r0 r1 HU4
            rcases hsel with ⟨nn, to, rfl, hst⟩ | ⟨z, T, t, yt, rfl, hfT, hoT, hsT, hz, hzr, hE1, hE2⟩
            · have HF : Hid (RunOut W0 Bt b ub R (.returned (.int .i64 4)) w6) := by
                have hn := HNX.out
                rw [hst] at hn
                simp only at hn
                show RunOut W0 Bt b ub R (.returned (.int .i64 4)) w6
                rw [hn]
                exact ⟨.inr (.inl rfl), rfl, HU5.out.low⟩
              clear hst HNX HU5 HTB
              go_wp2_with fail
              go_ret
              exact HF.out
            · have HB := bindU_any W0 Bt M HWF.out.1 HWF.out.2.1 b ub P2 E2 st' z T t yt w6 HC2.out hz hzr hoT hsT hfT HU5.out (by have := HE2.out; have := HWF.out.2.2.1; omega)
              have HEE : Hid ((Reach M T z → stepE 4 5 M X Y = .error 5) ∧ (¬ Reach M T z → stepE 4 5 M X Y = .ok (M.set z T, []))) := ⟨hE1, hE2⟩
              have HZ : Hid (M z = none) := hz
              clear hE1 hE2 hz hfT hoT hsT HTB HU5
              go_wp2_with fail
              refine HB.mono ?_
              rintro e w7 (⟨hr, rfl, hu7⟩ | ⟨hr, rfl, hu7⟩)
              · have HF : Hid (RunOut W0 Bt b ub R (.returned (.int .i64 5)) w7) := by
                  have hn := HNX.out
                  rw [HEE.out.1 hr] at hn
                  simp only at hn
                  show RunOut W0 Bt b ub R (.returned (.int .i64 5)) w7
                  rw [hn]
                  exact ⟨.inr (.inr rfl), rfl, hu7.low⟩
                clear hr hu7 HNX HB HEE
                go_wp2_with fail
                go_ret
                exact HF.out
              · have hri : RI W0 Bt b ub R (k + 1) (M.set z T) (P2.set z T) (putE E2 z (.iface t yt)) st' w7 := by
                  have hn := HNX.out
                  rw [HEE.out.2 hr] at hn
                  have hl : (putE E2 z (.iface t yt)).length ≤ E.length + 1 := by
                    have h1 := putE_len E2 z (.iface t yt)
                    have h2 := HE2.out
                    split at h1 <;> omega
                  have hr2 := hn (P2.set z T) (putE E2 z (.iface t yt)) w7 (HC2.out.bind HZ.out) (by simpa using hu7) hl
                  simpa using hr2
                obtain ⟨p2, n2, c3, hs2⟩ := hu7.stk
                have hc2 := hs2.cell
                have hn2 : n2 ≤ 400001 := by have := hs2.len; have := hri.slen; omega
                have HN : Hid (RI W0 Bt b ub R (k + 1) (M.set z T) (P2.set z T) (putE E2 z (.iface t yt)) st' w7 ∧ Stk W0 Bt w7 W0.heap.size ub 2 p2 n2 c3 st') := ⟨hri, hs2⟩
                clear hri hs2 hr hu7 HNX HB HEE HZ HC2 HE2
                go_wp2_with fail
                go_roundw
                case rel => exact ⟨k + 1, _, _, _, st', p2, n2, c3, by omega, hn2, by go_num, hc2, HN⟩
                case measure => simp [intOf]; omega
set_option maxRecDepth 100000 in
theorem run_any (W0 : World) (Bt b ub : Nat) (R : Except Int (BM × Nat)) (M P : BM) (E : List (Int × Value)) (st : List TT) (w : World) (h : RI W0 Bt b ub R 0 M P E st w) :
    Calls Tryz.prog 28 #[.pointer (some ⟨ub, 0, none⟩)] w (RunOut W0 Bt b ub R) := by
  have hmf : ∀ (fn : Fn) (first cap : Array Value) (w : World), (Instr.makeFunc fn first cap).run Tryz.prog w = .ok (.func fn first cap) w := fun _ _ _ _ => rfl
  have hb0 := h.ust.ubc
  have HW := workOff_any W0 Bt b ub R M P E st w h
  have HO : Hid (∀ e w', RunOut W0 Bt b ub R e w' → ∃ x, e = .returned (.int .i64 x)) := fun e w' h => by
    unfold RunOut at h
    split at h
    · exact ⟨_, h.2.1⟩
    · exact ⟨_, h.1⟩
  clear h
  go_enter Tryz.func28, Tryz.ntmps28
  go_wp2_with fail
  refine HW.mono ?_
  intro e w' hr
  obtain ⟨x, rfl⟩ := HO.out e w' hr
  have HF : Hid _ := hr
  clear hr HW
  go_wp2_with fail
  go_ret
  exact HF.out
end Go.Proofs.YtaakpdakeolgeaaGreat

namespace Go.Proofs.YtaakpdakeolgeaaGreat
open Go Go.RowKit
set_option linter.unusedVariables false
open Classical in
noncomputable def fullC (M : BM) (t : Tr) : List Cel := if h : ∃ g : Fo, FullF M t.fo g then (Classical.choose h).cells else []
theorem fullC_eq {M : BM} {t : Tr} {g : Fo} (h : FullF M t.fo g) : fullC M t = g.cells := by
  have hx : ∃ g : Fo, FullF M t.fo g := ⟨g, h⟩
  unfold fullC
  rw [dif_pos hx, (Classical.choose_spec hx).det h]
noncomputable def putC (M : BM) (c : Cel) : List Cel := if c.1 = 0 then (match M c.2.1 with | some u => fullC M u | none => [c]) else [c]
theorem full_cells {M : BM} {F G : Fo} (h : FullF M F G) : G.cells = F.cells.flatMap (putC M) := by
  induction h with
  | nil => rfl
  | @keep c k r k' r' h _ _ ihk ihr =>
    have e : putC M c = [c] := by
      unfold putC
      by_cases h0 : c.1 = 0
      · rw [if_pos h0, h h0]
      · rw [if_neg h0]
    simp only [Fo.cells, List.flatMap_cons, List.flatMap_append, ihk, ihr, e, List.singleton_append]
  | @put c r r' u g h0 hm hu _ _ ihr =>
    have e : putC M c = g.1 :: g.2.cells := by
      unfold putC
      rw [if_pos h0, hm]
      simp only [fullC_eq hu, Tr.fo, Fo.cells, List.append_nil]
    simp only [Fo.cells, List.flatMap_cons, List.nil_append, ihr, e, List.cons_append]
theorem WfU.full {M : BM} (h : WfU M) (t : Tr) (ht : t.fo.ok) : ∃ g : Tr, FullF M t.fo g.fo := by
  obtain ⟨r, hr⟩ := h.acyc
  obtain ⟨K, hK⟩ := list_top r (vsT t)
  obtain ⟨G, hG, hc⟩ := full_ex hr h.ok K t.fo ht hK
  cases G with
  | nil => simp [Tr.fo, Fo.count] at hc
  | node a b d =>
    cases d with
    | nil => exact ⟨(a, b), hG⟩
    | node _ _ _ => simp [Tr.fo, Fo.count] at hc
theorem WfU.full_flat {M : BM} (h : WfU M) (t : Tr) (ht : t.fo.ok) : fullC M t = (t.1 :: t.2.cells).flatMap (putC M) := by
  obtain ⟨g, hg⟩ := h.full t ht
  rw [fullC_eq hg, full_cells hg]
  simp [Tr.fo, Fo.cells]
theorem Cut.full_same {P M : BM} (hc : Cut P M) (h : WfU M) (t : Tr) (ht : t.fo.ok) : fullC P t = fullC M t := by
  obtain ⟨g, hg⟩ := (hc.wf h).full t ht
  rw [fullC_eq hg, fullC_eq (hc.full hg)]
def sumN : List Nat → Nat
  | [] => 0
  | a :: r => a + sumN r
theorem sum_cut (B : Nat) : ∀ l : List Nat, min (sumN (l.map (min · B))) B = min (sumN l) B
  | [] => rfl
  | a :: r => by
    have := sum_cut B r
    simp only [List.map_cons, sumN]
    omega
theorem flat_lenU {α β : Type} (f : α → List β) : ∀ l : List α, (l.flatMap f).length = sumN (l.map fun a => (f a).length)
  | [] => rfl
  | a :: r => by simp only [List.flatMap_cons, List.length_append, List.map_cons, sumN, flat_lenU f r]
theorem WfU.count {M : BM} (h : WfU M) (B : Nat) (t : Tr) (ht : t.fo.ok) : min (fullC M t).length B = min (sumN ((t.1 :: t.2.cells).map fun c => min (putC M c).length B)) B := by
  rw [h.full_flat t ht, flat_lenU, ← sum_cut B, List.map_map]
  rfl
theorem take_len {M : BM} (l : List Cel) (j : Nat) : ((l.take j).flatMap (putC M)).length ≤ (l.flatMap (putC M)).length := by
  conv => rhs; rw [← List.take_append_drop j l, List.flatMap_append, List.length_append]
  omega
end Go.Proofs.YtaakpdakeolgeaaGreat

