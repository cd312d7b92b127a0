/- Texts of Vars2, VarO, GrW, GrX. Own work of the verifier. -/
import Derived.Test.YtbnmmcegjlmdmaaGreatDoorUqan
import Derived.Test.YtbnmmcegjlmdmaaGreatDoorUqag
import Derived.Test.YtbnmmcegjlmdmaaGreatDoorUqal
namespace Go.Proofs.YtbnmmcegjlmdmaaGreatDoor
open Go Go.RowKit Go.Maps
set_option linter.unusedVariables false
theorem VState.below {w w' : World} {B vb nb mb : Nat} {ks : List Int} {p : Option Addr} {n c : Nat} (h : VState w B vb nb mb ks p n c) (hb : Below w.heap.size w w') : VState w' B vb nb mb ks p n c :=
  ⟨(hb.cell (World.block_lt_of_cell? _ _ h.1)).trans h.1, (hb.frozen (World.block_lt_of_cell? _ _ h.1)).trans h.2, (hb.cell (World.block_lt_of_cell? _ _ h.3)).trans h.3, h.4, row_below h.5 hb, h.6.of_block (hb.block _ h.6.lt), h.7, h.8, h.9, h.10⟩
def WalkOut (w : World) (B vb nb mb : Nat) (ks : List Int) (e : Ending) (w' : World) : Prop := e = .returned (.tuple #[]) ∧ (∃ p n c, VState w' B vb nb mb ks p n c) ∧ Below B w w'
end Go.Proofs.YtbnmmcegjlmdmaaGreatDoor

namespace Go.Proofs.YtbnmmcegjlmdmaaGreatDoor
open Go Go.RowKit Go.Maps
set_option linter.unusedVariables false
end Go.Proofs.YtbnmmcegjlmdmaaGreatDoor

namespace Go.Proofs.YtbnmmcegjlmdmaaGreatDoor
open Go Go.RowKit Go.Maps
set_option linter.unusedVariables false
set_option linter.unusedSimpArgs false
def NodeC (w : World) (c : Cel) (K : List Value → Prop) (v : Value) : Prop :=
  (c.1 = 0 ∧ v = .iface 84 (.int .i64 c.2.1)) ∨ (c.1 = 1 ∧ v = .iface 95 (.int .i64 c.2.1)) ∨ (c.1 = 2 ∧ v = .iface 74 (.string (strOfNums c.2.2))) ∨
  (c.1 = 3 ∧ ∃ b g cq vs, v = .iface 76 (.pointer (some ⟨b, 0, none⟩)) ∧ True ∧ True ∧ w.cell? ⟨b, 0, none⟩ = some (.string (strOfNums c.2.2)) ∧
    w.cell? ⟨b, 1, none⟩ = some (.slice (some ⟨g, 0, none⟩) vs.length cq) ∧ g < w.heap.size ∧ (∀ i, i < vs.length → w.cell? ⟨g, i, none⟩ = some (vs.getD i .nilIface)) ∧ K vs)
def FoC (w : World) : Fo → List Value → Prop
  | .nil, vs => vs = []
  | .node c k r, vs => ∃ v vr, vs = v :: vr ∧ NodeC w c (fun kv => FoC w k kv) v ∧ FoC w r vr
theorem NodeC.iface {w : World} {c : Cel} {K : List Value → Prop} {v : Value} (h : NodeC w c K v) : ∃ t x, v = .iface t x := by
  rcases h with ⟨_, h⟩ | ⟨_, h⟩ | ⟨_, h⟩ | ⟨_, b, g, cq, vs, h, _⟩ <;> exact ⟨_, _, h⟩
theorem FoC.iface {w : World} {c : Cel} {k : Fo} {v : Value} (h : FoC w (.node c k .nil) [v]) : ∃ t x, v = .iface t x := by
  obtain ⟨v', vr, e, hn, _⟩ := h
  obtain ⟨rfl, rfl⟩ := List.cons.inj e
  exact hn.iface
theorem FoC.count {w : World} : ∀ (F : Fo) (vs : List Value), FoC w F vs → vs.length = F.count
  | .nil, vs, h => by rw [show vs = [] from h]; rfl
  | .node c k r, vs, ⟨v, vr, e, _, hr⟩ => by rw [e]; simp [Fo.count, FoC.count r vr hr]
theorem FoC.imp {w w' : World} (hs : w.heap.size ≤ w'.heap.size) : ∀ (F : Fo) (vs : List Value), (∀ p v, w.cell? p = some v → w'.cell? p = some v) → FoC w F vs → FoC w' F vs
  | .nil, vs, _, h => h
  | .node c k r, vs, hc, ⟨v, vr, e, hn, hr⟩ => by
    refine ⟨v, vr, e, ?_, FoC.imp hs r vr hc hr⟩
    rcases hn with h | h | h | ⟨h, b, g, cq, us, hv, h1, h2, c0, c1, hg, cg, hk⟩
    · exact .inl h
    · exact .inr (.inl h)
    · exact .inr (.inr (.inl h))
    · exact .inr (.inr (.inr ⟨h, b, g, cq, us, hv, h1, h2, hc _ _ c0, hc _ _ c1, Nat.lt_of_lt_of_le hg hs, fun i hi => hc _ _ (cg i hi), FoC.imp hs k us hc hk⟩))
theorem FoC.of {w : World} {B : Nat} : ∀ (F : Fo) (vs : List Value), FoIn w B F vs → FoC w F vs
  | .nil, vs, h => h
  | .node c k r, vs, ⟨v, vr, e, hn, hr⟩ => by
    refine ⟨v, vr, e, ?_, FoC.of r vr hr⟩
    rcases hn with h | h | h | ⟨h, b, g, us, hv, h1, h2, c0, c1, hg, cg, hk⟩
    · exact .inl h
    · exact .inr (.inl h)
    · exact .inr (.inr (.inl h))
    · exact .inr (.inr (.inr ⟨h, b, g, us.length, us, hv, trivial, trivial, c0, c1, hg, cg, FoC.of k us hk⟩))
theorem FoC.below {w w' : World} {F : Fo} {vs : List Value} (h : FoC w F vs) (hb : Below w.heap.size w w') : FoC w' F vs := FoC.imp hb.size F vs (fun p v hp => (hb.cell (World.block_lt_of_cell? _ _ hp)).trans hp) h
theorem okG_cat : ∀ a b : Fo, okG (a.cat b) ↔ okG a ∧ okG b
  | .nil, b => by simp [Fo.cat, okG]
  | .node c k r, b => by
    have := okG_cat r b
    have e := Fo.count_cat k
    simp only [Fo.cat, okG, this, and_assoc]
def CompC (w : World) (s : List Int) (k : Fo) (b g cq : Nat) (vs : List Value) : Prop :=
  True ∧ True ∧ w.cell? ⟨b, 0, none⟩ = some (.string (strOfNums s)) ∧ w.cell? ⟨b, 1, none⟩ = some (.slice (some ⟨g, 0, none⟩) vs.length cq) ∧ g < w.heap.size ∧ (∀ i, i < vs.length → w.cell? ⟨g, i, none⟩ = some (vs.getD i .nilIface)) ∧ FoC w k vs
theorem ofG_any (b : Nat) (ks : List Int) (x : Int) (w : World) (h0 : 0 ≤ x) (h1 : x ≤ 2000000) (hl : ks.length ≤ 1000000) (hm : NumMap w b ks) :
    Calls Tryz.prog 77 #[.map (some b), .int .i64 x] w fun e w' => e = .returned (.int .i64 (ks.idxOf x)) ∧ NumMap w' b (putV ks x) ∧ w.grownBy w' (some b) := by
  obtain ⟨D, hown, hsz, hhas, hat⟩ := hm
  have hk := keyOf_int_mk (P := Tryz.prog) Tryz.underlying84 (q := .i64) (a := x) (WalkArith.wf_i64 (by omega))
  by_cases hx : x ∈ ks
  · have hh : Maps.has D (.int .i64 x) = true := by rw [hhas]; simpa using hx
    have hv := hat x hx
    have HO : Hid (NumMap w b (putV ks x)) := by rw [putV, if_pos hx]; exact ⟨D, hown, hsz, hhas, hat⟩
    clear hhas hat
    go_enter Tryz.func77, Tryz.ntmps77
    go_wp2_with (at_lookup; refine wpList_lookup_own_ok_int _ rfl _ _ 112 rfl 84 84 .i64 lawVar Tryz.underlying112 Tryz.underlying84 (zeroVar _) b ks.length D rfl hown _ _ rfl hk ?_; intro c hc hwc; rw [hh]; obtain rfl : c = ks.idxOf x := by (rw [hv] at hc; cases hc; rfl))
    go_ret
    exact ⟨rfl, HO.out, ⟨rfl, rfl, rfl, Nat.le_refl _, fun _ _ _ => rfl⟩⟩
  · have hh : Maps.has D (.int .i64 x) = false := by rw [hhas]; simpa using hx
    have hi : ks.idxOf x = ks.length := List.idxOf_eq_length hx
    have hkl : WideAt.IsKeyLit (.int .i64 x) := trivial
    have HF : Hid (∀ w', w'.ownsMap Tryz.prog 84 (plainElem Tryz.prog 84) b (ks.length + 1) (D.put (.int .i64 x) (.lit (.int .i64 ks.length))) → NumMap w' b (putV ks x)) := fun w' h => by
      have hm := hown.isMap
      rw [putV, if_neg hx]
      refine ⟨_, by simpa using h, ?_, fun y => ?_, fun y hy => ?_⟩
      · rw [size_put (hown.tidy lawVar), hh, hsz]; simp
      · by_cases e : y = x
        · subst e; rw [has_put_same hm hkl]; simp
        · rw [has_put_other (by simpa using e), hhas]; simp [e]
      · by_cases e : y = x
        · subst e
          rw [atKey_put_same hm hkl, List.idxOf_append, if_neg hx]
          simp
        · have hy' : y ∈ ks := by simpa [e] using hy
          rw [atKey_put_other (by simpa using e), hat y hy', List.idxOf_append, if_pos hy']
    rw [hi]
    obtain ⟨l, el⟩ : ∃ l, l = ks.length := ⟨_, rfl⟩
    rw [← el] at hown hsz hl HF ⊢
    clear hhas hat hi hx el
    go_enter Tryz.func77, Tryz.ntmps77
    go_wp2_with (first
      | (at_lookup; refine wpList_lookup_own_ok_int _ rfl _ _ 112 rfl 84 84 .i64 lawVar Tryz.underlying112 Tryz.underlying84 (zeroVar _) b l D rfl hown _ _ rfl hk ?_; intro c hc hwc; rw [hh])
      | (at_len; refine wpList_len_own _ rfl _ 112 rfl 84 84 Tryz.underlying112 _ b l D rfl hown ?_; rw [hsz])
      | (at_mapUpdate; refine wpList_mapUpdate_own _ rfl _ _ _ 112 rfl 84 84 lawVar Tryz.underlying112 _ b l D rfl hown (by unfold maxLen; omega) _ _ _ rfl rfl hk _ [] (plainElem_int Tryz.underlying84 (WalkArith.wf_i64 (by omega))) ?_; intro w1 hown1 hgrow1))
    go_ret
    exact ⟨rfl, HF.out _ hown1, hgrow1⟩
set_option maxRecDepth 100000 in
set_option maxHeartbeats 2000000 in
theorem visitVarG_any (x : Int) (B vb nb mb : Nat) (ks : List Int) (p : Option Addr) (n c : Nat) (w : World) (h0 : 0 ≤ x) (h1 : x ≤ 2000000) (hl : ks.length ≤ 100000) (hs : VState w B vb nb mb ks p n c) :
    Calls Tryz.prog 76 #[.iface 84 (.int .i64 x), .pointer (some ⟨nb, 0, none⟩), .pointer (some ⟨vb, 0, none⟩)] w fun e w' => e = .returned (.tuple #[]) ∧ (∃ p' n' c', VState w' B vb nb mb (putV ks x) p' n' c') ∧ Below B w w' := by
  have HOF : Hid (∀ k, Calls Tryz.prog 77 #[.map (some mb), .int .i64 x] (w.drewN k) fun e w' => e = .returned (.int .i64 (ks.idxOf x)) ∧ NumMap w' mb (putV ks x) ∧ (w.drewN k).grownBy w' (some mb)) := fun k => ofG_any mb ks x (w.drewN k) h0 h1 (by omega) (hs.map.of_block rfl)
  have n1 := isVar
  have c1 := hs.ncell
  have c2 := hs.vcell
  have hnl := hs.len
  have HS : Hid (VState w B vb nb mb ks p n c) := hs
  obtain ⟨ix, ei⟩ : ∃ ix : Nat, ix = ks.idxOf x := ⟨_, rfl⟩
  rw [← ei] at HOF
  obtain ⟨bb, eb⟩ : ∃ bb : Bool, bb = ((ix : Int) == (n : Int)) := ⟨_, rfl⟩
  have HIX : Hid (ix = ks.idxOf x) := ei
  have hnb : n ≤ 100000 := by omega
  have HNL : Hid (n = ks.length) := hnl
  clear hs ei hnl
  go_enter Tryz.func76, Tryz.ntmps76
  go_upto_region 1 with fail
  go_cut [19] from 6 (fun b wc => b = .bool bb ∧ Hid (NumMap wc mb (putV ks x) ∧ w.grownBy wc (some mb)))
  case first =>
    go_region_with (go_at_call 77; refine (HOF.out 1).mono ?_; rintro e w1 ⟨rfl, hm1, hg1⟩; have d2 : w1.cell? ⟨vb, 0, none⟩ = some (.slice p n c) := (HS.out.drew.after hm1 hg1).1)
    all_goals go_wp2_with fail
    all_goals go_meet
    all_goals exact ⟨by rw [eb], hm1, ⟨hg1.os, hg1.tape, hg1.output, hg1.size, hg1.block⟩⟩
  case rest =>
    obtain ⟨rfl, HG⟩ := hcut
    obtain ⟨a1, a2, a3, a4, a5⟩ := HS.out.after HG.out.1 HG.out.2
    by_cases hx : x ∈ ks
    · have hbb : bb = false := by rw [eb]; have := List.idxOf_lt_length_of_mem hx; have := HIX.out; have := HNL.out; simp; omega
      subst hbb
      have hp : putV ks x = ks := by rw [putV, if_pos hx]
      have HF : Hid (∃ p' n' c', VState wc B vb nb mb (putV ks x) p' n' c') := ⟨p, n, c, by rw [hp]; exact ⟨a1, a2, a3, HNL.out, a4, by have := HG.out.1; rwa [hp] at this, HS.out.bv, HS.out.bn, HS.out.bm, HS.out.away⟩⟩
      have HB : Hid _ := a5
      clear eb hx hp a1 a2 a3 a4 a5
      go_wp2_with fail
      go_end0
      exact ⟨rfl, HF.out, HB.out⟩
    · have hbb : bb = true := by rw [eb]; have := List.idxOf_eq_length hx; have := HIX.out; have := HNL.out; simp; omega
      subst hbb
      have hp : putV ks x = ks ++ [x] := by rw [putV, if_neg hx]
      have HP : Hid _ := hp
      obtain ⟨i0, hi, hz0, hz1, hz2⟩ := info_parts infoVar
      have HR : Hid ((wc.alloc (.cells #[.int .i64 x] 84)).ownsRow B 84 1 (.slice p n c) n (ks.map (Value.int .i64))) := a4.alloc _
      have HB : Hid (Below B w wc) := a5
      have hBc : B ≤ wc.heap.size := by have := HS.out.bm; have := HS.out.map.lt; have := HG.out.2.size; omega
      have HL : Hid (∀ k, Value.ownBlock (.slice p n c) = some k → B ≤ k ∧ k ≠ vb ∧ k ≠ nb ∧ k ≠ mb ∧ k < wc.heap.size) := fun k hk => by
        have h1 := a4.lt k hk
        rcases a4.2 with ⟨hv, _⟩ | ⟨g, cap, cur, hv, _⟩
        · simp only [Value.slice.injEq] at hv; rw [hv.1] at hk; cases hk
        · simp only [Value.slice.injEq] at hv
          rw [hv.1] at hk
          have e : k = g := (Option.some.inj hk).symm
          subst e
          exact ⟨h1.1, (HS.out.away k hv.1).1, (HS.out.away k hv.1).2, HS.out.map_ne.2.2 k hv.1, h1.2⟩
      have hlv := World.block_lt_of_cell? _ _ a1
      have hln := World.block_lt_of_cell? _ _ a3
      have HA : Hid ((wc.cell? ⟨vb, 0, none⟩ = some (.slice p n c) ∧ wc.frozen? ⟨vb, 0, none⟩ = false ∧ wc.cell? ⟨nb, 0, none⟩ = some (.map (some mb)))) := ⟨a1, a2, a3⟩
      clear eb hx hp a2 a3 a4 a5
      go_wp2_with (at_builtin; refine wpList_append_lies _ rfl _ _ 102 rfl B 84 i0 (.int .i64 0) 1 8 Tryz.underlying102 hi hz0 hz1 hz2 rfl (by decide) (.slice p n c) n (ks.map (Value.int .i64)) rfl HR.out ⟨wc.heap.size, 0, none⟩ 1 1 [.int .i64 x] rfl rfl (cell_one_new _ _ _) (ints_oneCell .i64 [x]) (by decide) (by unfold maxLen; omega) (by omega) (by simp; omega) _ rfl ?_; intro g cap w2 hown2 hgrow2 hat2 hlt2; have bv := blk_app hgrow2 hlv (fun e => (HL.out vb e.symm).2.1 rfl); have e1 := (World.cell?_of_block (w := wc) (a := ⟨vb, 0, none⟩) bv).trans HA.out.1; have e2 := (World.frozen?_of_block (w := wc) (a := ⟨vb, 0, none⟩) bv).trans HA.out.2.1)
      go_end0
      have bn := blk_app hgrow2 hln (fun e => (HL.out nb e.symm).2.2.1 rfl)
      have bm := blk_app hgrow2 HG.out.1.lt (fun e => (HL.out mb e.symm).2.2.2.1 rfl)
      have hgn : g ≠ vb ∧ g ≠ nb ∧ g ≠ mb := by
        rcases hat2 with h | h
        · have := HL.out g h; exact ⟨this.2.1, this.2.2.1, this.2.2.2.1⟩
        · have := HG.out.1.lt
          simp at h hlv hln; omega
      have hvn := HS.out.vn
      have hmv := HS.out.map_ne.1
      refine ⟨rfl, ⟨some ⟨g, 0, none⟩, n + 1, cap, ?_⟩, ?_⟩
      · rw [HP.out]
        refine ⟨World.cell?_setCell_same _ _ _ e1, by rw [World.frozen?_setCell]; exact e2, (World.cell?_setCell_other _ _ _ _ (fun e => hvn (congrArg Addr.block e))).trans ((World.cell?_of_block (w := wc) (a := ⟨nb, 0, none⟩) bn).trans HA.out.2.2), by simp; exact HNL.out, ?_, ?_, HS.out.bv, HS.out.bn, HS.out.bm, fun k e => ?_⟩
        · rw [List.map_append]
          exact ownsRow_setCell_other hown2 (by simp [Value.ownBlock]; exact hgn.1) _
        · have := HG.out.1
          rw [HP.out] at this
          exact (this.of_block bm).of_block (Below.heap_setCell _ _ _ _ hmv)
        · have : g = k := congrArg Addr.block (Option.some.inj e)
          rw [← this]; exact ⟨hgn.1, hgn.2.1⟩
      · exact (HB.out.trans (((Below.refl _ _).alloc hBc _).grown hgrow2 (by simp; omega) (fun k e => (HL.out k e).1))).setCell (p := ⟨vb, 0, none⟩) HS.out.bv _
theorem argsCompC_any (b g q cq : Nat) (w : World) (h : w.cell? ⟨b, 1, none⟩ = some (.slice (some ⟨g, 0, none⟩) q cq)) :
    Calls Tryz.prog 25 #[.iface 76 (.pointer (some ⟨b, 0, none⟩))] w fun e w' => e = .returned (.slice (some ⟨g, 0, none⟩) q cq) ∧ w' = w := by
  have n1 := isComp
  go_enter Tryz.func25, Tryz.ntmps25
  go_wp2_with fail
  go_ret
  exact ⟨rfl, rfl⟩
theorem visitG_any (c : Cel) (K : List Value → Prop) (v : Value) (B vb nb mb : Nat) (ks : List Int) (p : Option Addr) (n cp : Nat) (w0 w : World) (hc : cellG c.1 c.2.1 c.2.2.length) (hl : ks.length ≤ 100000) (hn : NodeC w0 c K v) (hs : VState w B vb nb mb ks p n cp) :
    Calls Tryz.prog 76 #[v, .pointer (some ⟨nb, 0, none⟩), .pointer (some ⟨vb, 0, none⟩)] w fun e w' => e = .returned (.tuple #[]) ∧ (∃ p' n' c', VState w' B vb nb mb (visitL ks c) p' n' c') ∧ Below B w w' := by
  have oth : ∀ (t : TypeId) (x : Value), (t = 95 ∨ t = 74 ∨ t = 76) → c.1 ≠ 0 → Calls Tryz.prog 76 #[.iface t x, .pointer (some ⟨nb, 0, none⟩), .pointer (some ⟨vb, 0, none⟩)] w fun e w' => e = .returned (.tuple #[]) ∧ (∃ p' n' c', VState w' B vb nb mb (visitL ks c) p' n' c') ∧ Below B w w' := fun t x ht h0 =>
    (visitOther_any t x vb nb w ht).mono fun e w' ⟨he, m, hw⟩ => by
      have hb : ∀ A, Below A w w' := fun A => by rw [hw]; exact ⟨rfl, rfl, rfl, Nat.le_refl _, fun _ _ => rfl⟩
      exact ⟨he, ⟨p, n, cp, by rw [visitL, if_neg h0]; exact hs.below (hb _)⟩, hb _⟩
  rcases hn with ⟨h0, rfl⟩ | ⟨h0, rfl⟩ | ⟨h0, rfl⟩ | ⟨h0, b, g, cq, vs, rfl, _⟩
  · rw [h0] at hc
    have hx : 0 ≤ c.2.1 ∧ c.2.1 ≤ 2000000 := by unfold cellG at hc; omega
    rw [visitL, if_pos h0]
    exact visitVarG_any c.2.1 B vb nb mb ks p n cp w hx.1 hx.2 hl hs
  · exact oth _ _ (.inl rfl) (by rw [h0]; decide)
  · exact oth _ _ (.inr (.inl rfl)) (by rw [h0]; decide)
  · exact oth _ _ (.inr (.inr rfl)) (by rw [h0]; decide)
set_option maxRecDepth 100000 in
set_option maxHeartbeats 1000000 in
theorem walkG_any : ∀ (N : Nat) (c : Cel) (k : Fo) (v : Value) (B vb nb mb : Nat) (ks : List Int) (p : Option Addr) (n cp : Nat) (w0 w : World), k.cells.length ≤ N → okG (Fo.node c k .nil) → FoC w0 (.node c k .nil) [v] → Below w0.heap.size w0 w → w0.heap.size ≤ B → B ≤ w.heap.size → VState w B vb nb mb ks p n cp → ks.length + 1 + k.cells.length ≤ 100000 →
    Calls Tryz.prog 75 #[v, .func (.func 76) #[] #[.pointer (some ⟨nb, 0, none⟩), .pointer (some ⟨vb, 0, none⟩)]] w (WalkOut w B vb nb mb (visits ks (c :: k.cells))) := by
  intro N
  induction N using Nat.strongRecOn with
  | _ N ih =>
    intro c k v B vb nb mb ks p n cp w0 w hN hok hfo hw hB0 hB hs hlen
    obtain ⟨v', vr, e, hnode, _⟩ := hfo
    obtain ⟨rfl, rfl⟩ := List.cons.inj e
    have HV := visitG_any c _ v B vb nb mb ks p n cp w0 w hok.1 (by omega) hnode hs
    rw [visits_cons]
    have hvl := visitL_len ks c
    have HIH : Hid _ := ih
    have HW : Hid (Below w0.heap.size w0 w) := hw
    have leaf : ∀ (t : TypeId) (x : Value), v = .iface t x → (t = 84 ∨ t = 95 ∨ t = 74) → c.1 ≠ 3 → Calls Tryz.prog 75 #[v, .func (.func 76) #[] #[.pointer (some ⟨nb, 0, none⟩), .pointer (some ⟨vb, 0, none⟩)]] w (WalkOut w B vb nb mb (visits (visitL ks c) k.cells)) := fun t x hv ht h3 => by
      have hk : k = .nil := hok.2.2.2.1 h3
      subst hk hv
      have HA := fun W => argsLeaf_any t x W ht
      clear hok hnode hs HIH ih e hw
      go_enter Tryz.func75, Tryz.ntmps75
      go_wp2_with fail
      refine HV.mono ?_
      rintro e w1 ⟨rfl, hst, hb⟩
      go_wp2_with fail
      refine (HA _).mono ?_
      rintro e w2 ⟨rfl, rfl⟩
      go_wp2_with fail
      refine wp_loop_rounds 1 ?_
      rw [rounds_succ]
      go_wp2_with fail
      go_end0
      exact ⟨rfl, hst, hb⟩
    rcases hnode with ⟨h0, hv⟩ | ⟨h0, hv⟩ | ⟨h0, hv⟩ | ⟨h0, b, g, cq, vs, hv, hcomp⟩
    · exact leaf _ _ hv (.inl rfl) (by rw [h0]; decide)
    · exact leaf _ _ hv (.inr (.inl rfl)) (by rw [h0]; decide)
    · exact leaf _ _ hv (.inr (.inr rfl)) (by rw [h0]; decide)
    · subst hv
      clear leaf
      have HC : Hid (CompC w0 c.2.2 k b g cq vs) := hcomp
      have hvl2 : vs.length = k.count := FoC.count _ _ hcomp.2.2.2.2.2.2
      obtain ⟨q, eq⟩ : ∃ q, q = vs.length := ⟨_, rfl⟩
      have HE : Hid (q = vs.length ∧ vs.length = k.count) := ⟨eq, hvl2⟩
      have hq : q ≤ 100000 := by have := Fo.count_le k; omega
      have HK : Hid (okG k) := hok.2.2.2.2.1
      have HBB : Hid (b < w0.heap.size ∧ w0.cell? ⟨b, 1, none⟩ = some (.slice (some ⟨g, 0, none⟩) q cq)) := ⟨World.block_lt_of_cell? _ _ hcomp.2.2.2.1, by rw [eq]; exact hcomp.2.2.2.1⟩
      clear hcomp hok hs ih e hw eq hvl2
      go_enter Tryz.func75, Tryz.ntmps75
      go_wp2_with fail
      refine HV.mono ?_
      rintro e w1 ⟨rfl, hst, hb1⟩
      have d1 : w1.cell? ⟨b, 1, none⟩ = some (.slice (some ⟨g, 0, none⟩) q cq) := (((HW.out.trans (hb1.mono hB0)).cell (p := ⟨b, 1, none⟩) HBB.out.1)).trans HBB.out.2
      have HST : Hid _ := hst
      have HB1 : Hid (Below B w w1) := hb1
      clear hst hb1 HV
      go_wp2_with fail
      refine (argsCompC_any b g q cq _ d1).mono ?_
      rintro e w2 ⟨rfl, hw2⟩
      subst hw2
      clear d1
      go_wp2_with fail
      go_loopw [12] (fun i wr => ∃ (D R : Fo) (us vs2 : List Value) (j : Nat), j ≤ q ∧ i = .int .i64 j ∧ Hid (k = D.cat R ∧ vs = us ++ vs2 ∧ us.length = j) ∧ Hid (FoC w0 R vs2) ∧ Hid (∃ p n c', VState wr B vb nb mb (visits (visitL ks c) D.cells) p n c') ∧ Hid (Below B w wr)) (fun i _ => q - (intOf i).toNat)
      case atStart => exact ⟨.nil, k, [], vs, 0, Nat.zero_le _, rfl, ⟨rfl, rfl, rfl⟩, HC.out.2.2.2.2.2.2, HST, HB1⟩
      case round =>
        obtain ⟨D, R, us, vs2, j, hj, rfl, HF, HR, HS, HB⟩ := hrel
        by_cases hlt : j < q
        · obtain ⟨c', k', r', rfl⟩ : ∃ c' k' r', R = .node c' k' r' := by
            cases R with
            | nil =>
              have h1 := HF.out
              have h2 : vs2 = [] := HR.out
              have h3 := HE.out.1
              rw [h1.2.1, h2, List.append_nil] at h3
              omega
            | node c' k' r' => exact ⟨c', k', r', rfl⟩
          obtain ⟨v, vr, rfl, hnode, hrest⟩ := HR.out
          have hok2 := (okG_cat D (.node c' k' r')).1 (HF.out.1 ▸ HK.out)
          have hl2 : D.cells.length + (k'.cells.length + r'.cells.length + 1) = k.cells.length := by
            rw [HF.out.1, Fo.cells_cat]; simp [Fo.cells]
          have hat : w0.cell? ⟨g, j, none⟩ = some v := by
            rw [HC.out.2.2.2.2.2.1 j (by rw [← HE.out.1]; exact hlt), HF.out.2.1]
            simp [List.getD, HF.out.2.2]
          have hwr : Below w0.heap.size w0 wr := HW.out.trans (HB.out.mono hB0)
          have c5 : wr.cell? ⟨g, j, none⟩ = some v := (hwr.cell (World.block_lt_of_cell? _ _ hat)).trans hat
          obtain ⟨p4, n4, c4, hs4⟩ := HS.out
          have hB4 : B ≤ wr.heap.size := Nat.le_trans hB HB.out.size
          have HWK := HIH.out k'.cells.length (by omega) c' k' v B vb nb mb (visits (visitL ks c) D.cells) p4 n4 c4 w0 wr (Nat.le_refl _) ⟨hok2.2.1, hok2.2.2.1, hok2.2.2.2.1, hok2.2.2.2.2.1, hok2.2.2.2.2.2.1, trivial⟩ ⟨v, [], rfl, hnode, rfl⟩ hwr hB0 hB4 hs4 (by have := visits_len D.cells (visitL ks c); omega)
          obtain ⟨vt, vx, rfl⟩ := hnode.iface
          have HRR : Hid (FoC w0 r' vr) := hrest
          clear hok2 hl2 hat hwr hs4 hnode hrest HIH
          go_wp2_with fail
          refine HWK.mono ?_
          rintro e w3 ⟨rfl, hst3, hb3⟩
          have HN : Hid (k = (D.cat (.node c' k' .nil)).cat r' ∧ vs = (us ++ [.iface vt vx]) ++ vr ∧ (us ++ [Value.iface vt vx]).length = j + 1) := ⟨by rw [Fo.cat_assoc]; exact HF.out.1, by rw [HF.out.2.1]; simp, by simp [HF.out.2.2]⟩
          have HST3 : Hid (∃ p n c2, VState w3 B vb nb mb (visits (visitL ks c) (D.cat (.node c' k' .nil)).cells) p n c2) := by
            show ∃ p n c2, VState w3 B vb nb mb _ p n c2
            rw [Fo.cells_cat, visits_append]; simpa [Fo.cells] using hst3
          have HB3 : Hid (Below B w w3) := HB.out.trans hb3
          clear hst3 hb3 HWK
          go_wp2_with fail
          go_roundw
          case rel => exact ⟨D.cat (.node c' k' .nil), r', us ++ [.iface vt vx], vr, j + 1, by omega, by go_num, HN, HRR, HST3, HB3⟩
          case measure => simp [intOf]; omega
        · obtain rfl : j = q := by omega
          obtain rfl : R = .nil := by
            have h1 := FoC.count _ _ HR.out
            have h2 := HE.out
            rw [HF.out.2.1, List.length_append] at h2
            have h3 := HF.out.2.2
            cases R with
            | nil => rfl
            | node a b d => simp [Fo.count] at h1; omega
          have HF' : Hid (D = k) := by have := HF.out.1; rw [Fo.cat_nil] at this; exact this.symm
          go_wp2_with fail
          go_end0
          refine ⟨rfl, ?_, HB.out⟩
          have h1 := HS.out
          rwa [HF'.out] at h1
set_option maxRecDepth 100000 in
theorem variablesG_any (c : Cel) (k : Fo) (v : Value) (w : World) (hok : okG (Fo.node c k .nil)) (hfo : FoC w (.node c k .nil) [v]) (hl : k.cells.length ≤ 10000) :
    Calls Tryz.prog 64 #[v] w fun e w' => ∃ p n cp, e = .returned (.slice p n cp) ∧ OwnI w' w.heap.size 84 p n cp (visits [] (c :: k.cells)) ∧ Below w.heap.size w w' := by
  have hmm := @run_makeMap Tryz.prog
  obtain ⟨vt, vx, rfl⟩ := hfo.iface
  have hW : Below w.heap.size w (((w.alloc (Obj.cells #[Value.slice none 0 0] 102)).alloc (Obj.map #[] 0)).alloc (Obj.cells #[Value.map (some (w.heap.size + 1))] 112)) := (((Below.refl _ _).alloc (Nat.le_refl _) _).alloc (by simp) _).alloc (by simp; omega) _
  have hS : VState (((w.alloc (Obj.cells #[Value.slice none 0 0] 102)).alloc (Obj.map #[] 0)).alloc (Obj.cells #[Value.map (some (w.heap.size + 1))] 112)) w.heap.size w.heap.size (w.heap.size + 1 + 1) (w.heap.size + 1) [] none 0 0 := by
    have h0 : (((w.alloc (Obj.cells #[Value.slice none 0 0] 102)).alloc (Obj.map #[] 0)).alloc (Obj.cells #[Value.map (some (w.heap.size + 1))] 112)).heap[w.heap.size]? = some (Obj.cells #[Value.slice none 0 0] 102) := (Below.heap_alloc _ _ _ (by simp; omega)).trans ((Below.heap_alloc _ _ _ (by simp)).trans (heap_alloc_new _ _))
    have h3 := heap_three w (Obj.cells #[Value.slice none 0 0] 102) (Obj.map #[] 0) (Obj.cells #[Value.map (some (w.heap.size + 1))] 112)
    refine ⟨cell_of_row _ _ 0 _ _ _ h0, frozen_of_row _ _ 0 _ _ h0, cell_of_row _ _ 0 _ _ _ h3.2, rfl, World.ownsRow_nil _ _ _ _, ?_, Nat.le_refl _, by omega, by omega, fun g e => by cases e⟩
    have hm := NumMap.made (w.alloc (Obj.cells #[Value.slice none 0 0] 102))
    have e : (w.alloc (Obj.cells #[Value.slice none 0 0] 102)).heap.size = w.heap.size + 1 := by simp
    rw [e] at hm
    exact hm.of_block (Below.heap_alloc _ _ _ (by simp))
  have HWK := walkG_any k.cells.length c k _ w.heap.size w.heap.size (w.heap.size + 1 + 1) (w.heap.size + 1) [] none 0 0 w _ (Nat.le_refl _) hok hfo hW (Nat.le_refl _) hW.size hS (by simp; omega)
  have HW : Hid _ := hW
  clear hok hfo hS hW
  go_enter Tryz.func64, Tryz.ntmps64
  go_wp2_with fail
  refine HWK.mono ?_
  rintro e w1 ⟨rfl, ⟨p, n, cp, hst⟩, hb⟩
  have d0 := hst.vcell
  have HR : Hid (OwnI w1 w.heap.size 84 p n cp (visits [] (c :: k.cells))) := ⟨hst.len, hst.row⟩
  have HB : Hid (Below w.heap.size w w1) := HW.out.trans hb
  clear hst hb HWK
  go_wp2_with fail
  go_ret
  exact ⟨_, _, _, rfl, HR.out, HB.out⟩
end Go.Proofs.YtbnmmcegjlmdmaaGreatDoor

namespace Go.Proofs.YtbnmmcegjlmdmaaGreatDoor
open Go Go.RowKit Go.Maps
set_option linter.unusedVariables false
set_option linter.unusedSimpArgs false
set_option maxRecDepth 20000 in
set_option maxHeartbeats 2000000 in
theorem appCompC_any : ∀ (N : Nat) (s : List Int) (k : Fo) (b g cq : Nat) (vs : List Value) (p : Option Addr) (n cp : Nat) (cs : List Cel) (B : Nat) (w0 w : World), k.cells.length ≤ N → okG k → Byte s → CompC w0 s k b g cq vs → Below w0.heap.size w0 w → w0.heap.size ≤ B → B ≤ w.heap.size →
    OwnC w B p n cp cs → n + 1 + k.cells.length ≤ 1000000 → Calls Tryz.prog 103 #[.pointer (some ⟨b, 0, none⟩), .slice p n cp] w (AppOut w B cs ((3, k.count, s) :: k.cells)) := by
  intro N
  induction N using Nat.strongRecOn with
  | _ N ih =>
    intro s k b g cq vs p n cp cs B w0 w hN hok hs hcomp hw hB0 hB ho hn
    have HO : Hid (OwnC w B p n cp cs) := ho
    have HC : Hid (CompC w0 s k b g cq vs) := hcomp
    have HW : Hid (Below w0.heap.size w0 w) := hw
    obtain ⟨w1, cap1, hcv, hb1, ht⟩ := conv_bytes w.drew s hs 9 Tryz.underlying9
    have hvl : vs.length = k.count := FoC.count _ _ hcomp.2.2.2.2.2.2
    have c0 := (hw.cell (World.block_lt_of_cell? _ _ hcomp.2.2.1)).trans hcomp.2.2.1
    have c1 := (hw.cell (World.block_lt_of_cell? _ _ hcomp.2.2.2.1)).trans hcomp.2.2.2.1
    have hw1 : Below w.heap.size w w1 := (Below.refl _ _).drew.trans hb1
    have d0 := (hw1.cell (World.block_lt_of_cell? _ _ c0)).trans c0
    have d1 := (hw1.cell (World.block_lt_of_cell? _ _ c1)).trans c1
    obtain ⟨m, em⟩ : ∃ m, m = s.length := ⟨_, rfl⟩
    obtain ⟨str, es⟩ : ∃ str, str = strOfNums s := ⟨_, rfl⟩
    obtain ⟨q, eq⟩ : ∃ q, q = vs.length := ⟨_, rfl⟩
    rw [← em] at hcv ht
    rw [← es] at hcv c0 d0
    rw [← eq] at c1 d1
    have hs1 := hb1.size
    have hcv' : (convert 9 32 (.string str)).run Tryz.prog w.drew = .ok (.slice (some ⟨w.heap.size, 0, none⟩) m cap1) w1 := hcv
    have ht' : OwnT w1 w.heap.size (some ⟨w.heap.size, 0, none⟩) m cap1 s := ht
    have hb : Below w1.heap.size w1 (w1.alloc (Obj.cells #[Value.int IntKind.i64 3, Value.int IntKind.i64 q, Value.slice (some ⟨w.heap.size, 0, none⟩) m cap1] 43)) := (Below.refl _ _).alloc (Nat.le_refl _) _
    have HB : Hid (Below w.heap.size w (w1.alloc (Obj.cells #[Value.int IntKind.i64 3, Value.int IntKind.i64 q, Value.slice (some ⟨w.heap.size, 0, none⟩) m cap1] 43))) := Below.on hw1 hb
    have HT : Hid (OwnT (w1.alloc (Obj.cells #[Value.int IntKind.i64 3, Value.int IntKind.i64 q, Value.slice (some ⟨w.heap.size, 0, none⟩) m cap1] 43)) w.heap.size (some ⟨w.heap.size, 0, none⟩) m cap1 s) := ht'.below hb
    have HX : Hid (Box3 (w1.alloc (Obj.cells #[Value.int IntKind.i64 3, Value.int IntKind.i64 q, Value.slice (some ⟨w.heap.size, 0, none⟩) m cap1] 43)) w1.heap.size (.int .i64 3) (.int .i64 q) (.slice (some ⟨w.heap.size, 0, none⟩) m cap1)) := Box3.of_block (t := 43) (heap_alloc_new _ _)
    have HIH : Hid _ := ih
    have HE : Hid (q = vs.length ∧ vs.length = k.count) := ⟨eq, hvl⟩
    have hq : q ≤ 1000000 := by have := Fo.count_le k; omega
    clear ih ho hcomp hw em es eq hvl hb1 ht ht' hcv hb hw1
    go_enter Tryz.func103, Tryz.ntmps103
    go_upto_region 1 with fail
    go_cut [1] from 7 (fun v wc => ∃ g2 n2 c2, v = .slice (some ⟨g2, 0, none⟩) n2 c2 ∧ Hid (OwnC wc B (some ⟨g2, 0, none⟩) n2 c2 (cs ++ [((3, (q : Int), s) : Cel)])) ∧ Hid (Below B w wc) ∧ n2 = n + 1)
    case first =>
      go_region_law (refine step_app_cell w _ rfl _ _ rfl B p n cp cs rfl HO.out HB.out hB ⟨w1.heap.size, 0, none⟩ 1 rfl 3 q (some ⟨w.heap.size, 0, none⟩) m cap1 s HT.out (news_rc HX.out) (by omega) ?_; intro g1 n1 cap2 w2 hown1 hb2 hn1)
      all_goals go_wp2_with fail
      all_goals go_meet
      all_goals exact ⟨g1, n1, cap2, rfl, hown1, (HB.out.mono hB).trans hb2, hn1⟩
    case rest =>
      obtain ⟨g2, n2, c2, rfl, HO2, HB2, hn2⟩ := hcut
      have e1 : wc.cell? ⟨b, 1, none⟩ = some (.slice (some ⟨g, 0, none⟩) q cq) := (HB2.out.cell (p := ⟨b, 1, none⟩) (by have := World.block_lt_of_cell? _ _ HC.out.2.2.2.1; show b < B; simp at this; omega)).trans c1
      clear c0 c1 d0 d1 hcv' HO HB HT HX
      go_wp2_with fail
      go_loopw [1, 26] (fun v i wr => ∃ (D R : Fo) (us vs2 : List Value) (j : Nat) (p4 : Option Addr) (n4 c4 : Nat), j ≤ q ∧ n4 ≤ 1000000 ∧ i = .int .i64 j ∧ v = .slice p4 n4 c4 ∧ Hid (k = D.cat R ∧ vs = us ++ vs2 ∧ us.length = j ∧ n4 = n + 1 + D.cells.length) ∧ Hid (FoC w0 R vs2) ∧
        Hid (OwnC wr B p4 n4 c4 (cs ++ ((3, (q : Int), s) : Cel) :: D.cells)) ∧ Hid (Below B w wr)) (fun _ i _ => q - (intOf i).toNat)
      case atStart => exact ⟨.nil, k, [], vs, 0, _, _, _, Nat.zero_le _, by omega, rfl, rfl, ⟨rfl, rfl, rfl, by simp [Fo.cells, hn2]⟩, HC.out.2.2.2.2.2.2, HO2, HB2⟩
      case round =>
        obtain ⟨D, R, us, vs2, j, p4, n4, c4, hj, hn4, rfl, rfl, HF, HR, HO4, HB4⟩ := hrel
        by_cases hlt : j < q
        · obtain ⟨c', k', r', rfl⟩ : ∃ c' k' r', R = .node c' k' r' := by
            cases R with
            | nil =>
              have h1 := HF.out
              have h2 : vs2 = [] := HR.out
              have h3 := HE.out.1
              rw [h1.2.1, h2, List.append_nil] at h3
              omega
            | node c' k' r' => exact ⟨c', k', r', rfl⟩
          obtain ⟨v, vr, rfl, hnode, hrest⟩ := HR.out
          have hok2 := (okG_cat D (.node c' k' r')).1 (HF.out.1 ▸ hok)
          have hlen : D.cells.length + (k'.cells.length + r'.cells.length + 1) = k.cells.length := by
            rw [HF.out.1, Fo.cells_cat]; simp [Fo.cells]
          have hat : w0.cell? ⟨g, j, none⟩ = some v := by
            rw [HC.out.2.2.2.2.2.1 j (by rw [← HE.out.1]; exact hlt), HF.out.2.1]
            simp [List.getD, HF.out.2.2.1]
          have hwr : Below w0.heap.size w0 wr := HW.out.trans (HB4.out.mono hB0)
          have c5 : wr.cell? ⟨g, j, none⟩ = some v := (hwr.cell (World.block_lt_of_cell? _ _ hat)).trans hat
          have next : ∀ p3 n3 c3 w3, OwnC w3 B p3 n3 c3 ((cs ++ ((3, (q : Int), s) : Cel) :: D.cells) ++ (c' :: k'.cells)) → Below B wr w3 →
              ∃ (D R : Fo) (us vs2 : List Value) (j' : Nat) (p4 : Option Addr) (n4 c4 : Nat), j' ≤ q ∧ n4 ≤ 1000000 ∧ Value.int .i64 ((j : Int) + 1) = .int .i64 j' ∧ Value.slice p3 n3 c3 = .slice p4 n4 c4 ∧ Hid (k = D.cat R ∧ vs = us ++ vs2 ∧ us.length = j' ∧ n4 = n + 1 + D.cells.length) ∧ Hid (FoC w0 R vs2) ∧
                Hid (OwnC w3 B p4 n4 c4 (cs ++ ((3, (q : Int), s) : Cel) :: D.cells)) ∧ Hid (Below B w w3) := fun p3 n3 c3 w3 h1 h2 => by
            have e3 := h1.1
            have e4 := HO4.out.1
            have e5 := HF.out.2.2.2
            simp only [List.length_append, List.length_cons] at e3 e4
            refine ⟨D.cat (.node c' k' .nil), r', us ++ [v], vr, j + 1, p3, n3, c3, by omega, by omega, by go_num, rfl, ⟨by rw [Fo.cat_assoc]; exact HF.out.1, by rw [HF.out.2.1]; simp, by simp [HF.out.2.2.1], ?_⟩, hrest, ?_, HB4.out.trans h2⟩
            · rw [Fo.cells_cat]; simp [Fo.cells]; omega
            · show OwnC _ _ _ _ _ _
              rw [Fo.cells_cat]; simpa [Fo.cells] using h1
          have NEXT : Hid _ := next
          clear next
          have hB4 : B ≤ wr.heap.size := Nat.le_trans hB HB4.out.size
          rcases hnode with ⟨h0, rfl⟩ | ⟨h0, rfl⟩ | ⟨h0, rfl⟩ | ⟨h0, b5, g5, cq5, kv, rfl, h5⟩
          · have hk' : k' = .nil := hok2.2.2.2.2.1 (by rw [h0]; decide)
            have hcl := hok2.2.1
            obtain ⟨c0, c1, c2'⟩ := c'
            simp only at h0 hcl
            subst h0 hk'
            have e : c2' = [] := by (have hz : c2'.length = 0 := by unfold cellG at hcl; omega); exact List.eq_nil_of_length_eq_zero hz
            subst e
            have HS := appVar_any c1 p4 n4 c4 _ B wr hB4 (by omega) HO4.out
            clear hok2 hlen hat hcl hrest hwr HO4 HR HIH
            go_wp2_with fail
            refine HS.mono ?_
            rintro e w3 ⟨p3, n3, c3, rfl, hown3, hb3⟩
            go_wp2_with fail
            go_roundw
            case rel => exact NEXT.out p3 n3 c3 w3 hown3 hb3
            case measure => simp [intOf]; omega
          · have hk' : k' = .nil := hok2.2.2.2.2.1 (by rw [h0]; decide)
            have hcl := hok2.2.1
            obtain ⟨c0, c1, c2'⟩ := c'
            simp only at h0 hcl
            subst h0 hk'
            have e : c2' = [] := by (have hz : c2'.length = 0 := by unfold cellG at hcl; omega); exact List.eq_nil_of_length_eq_zero hz
            subst e
            have HS := appNum_any c1 p4 n4 c4 _ B wr hB4 (by omega) HO4.out
            clear hok2 hlen hat hcl hrest hwr HO4 HR HIH
            go_wp2_with fail
            refine HS.mono ?_
            rintro e w3 ⟨p3, n3, c3, rfl, hown3, hb3⟩
            go_wp2_with fail
            go_roundw
            case rel => exact NEXT.out p3 n3 c3 w3 hown3 hb3
            case measure => simp [intOf]; omega
          · have hk' : k' = .nil := hok2.2.2.2.2.1 (by rw [h0]; decide)
            have hcl := hok2.2.1
            have hby := hok2.2.2.1
            obtain ⟨c0, c1, c2'⟩ := c'
            simp only at h0 hcl hby c5
            subst h0 hk'
            have e : c1 = 0 := by unfold cellG at hcl; omega
            subst e
            have HS := appAtom_any c2' hby p4 n4 c4 _ B wr hB4 (by omega) HO4.out
            obtain ⟨st, est⟩ : ∃ st, st = strOfNums c2' := ⟨_, rfl⟩
            rw [← est] at HS c5
            clear hok2 hlen hat hcl hrest hwr HO4 HR HIH hby est
            go_wp2_with fail
            refine HS.mono ?_
            rintro e w3 ⟨p3, n3, c3, rfl, hown3, hb3⟩
            go_wp2_with fail
            go_roundw
            case rel => exact NEXT.out p3 n3 c3 w3 hown3 hb3
            case measure => simp [intOf]; omega
          · have hcl := hok2.2.1
            have hby := hok2.2.2.1
            have hcn := hok2.2.2.2.1 h0
            obtain ⟨c0, c1, c2'⟩ := c'
            simp only at h0 hcl hby hcn h5
            subst h0 hcn
            have HS := HIH.out k'.cells.length (by omega) c2' k' b5 g5 cq5 kv p4 n4 c4 _ B w0 wr (Nat.le_refl _) hok2.2.2.2.2.2.1 hby h5 hwr hB0 hB4 HO4.out (by have := HF.out.2.2.2; omega)
            clear hok2 hlen hat hcl hrest hwr HO4 HR HIH hby h5
            go_wp2_with fail
            refine HS.mono ?_
            rintro e w3 ⟨p3, n3, c3, rfl, hown3, hb3⟩
            go_wp2_with fail
            go_roundw
            case rel => exact NEXT.out p3 n3 c3 w3 hown3 hb3
            case measure => simp [intOf]; omega
        · obtain rfl : j = q := by omega
          obtain rfl : R = .nil := by
            have h1 := FoC.count _ _ HR.out
            have h2 := HE.out
            rw [HF.out.2.1, List.length_append] at h2
            have h3 := HF.out.2.2.1
            cases R with
            | nil => rfl
            | node a b d => simp [Fo.count] at h1; omega
          have HF' : Hid (D = k) := by have := HF.out.1; rw [Fo.cat_nil] at this; exact this.symm
          go_wp2_with fail
          go_ret
          refine ⟨_, _, _, rfl, ?_, HB4.out⟩
          have h1 := HO4.out
          rw [HF'.out, HE.out.1, HE.out.2] at h1
          exact h1
set_option maxRecDepth 100000 in
theorem cellsC_any (c : Cel) (k : Fo) (v : Value) (w : World) (hok : okG (Fo.node c k .nil)) (hfo : FoC w (.node c k .nil) [v]) (hl : k.cells.length ≤ 10000) :
    Calls Tryz.prog 45 #[v] w fun e w' => ∃ p n cp, e = .returned (.slice p n cp) ∧ OwnC w' w.heap.size p n cp (c :: k.cells) ∧ Below w.heap.size w w' := by
  have nil := OwnC.nil w w.heap.size
  have fin : ∀ {e : Ending} {w' : World}, AppOut w w.heap.size [] (c :: k.cells) e w' → ∃ p n cp, e = .returned (.slice p n cp) ∧ OwnC w' w.heap.size p n cp (c :: k.cells) ∧ Below w.heap.size w w' := fun ⟨p, n, cp, h1, h2, h3⟩ => ⟨p, n, cp, h1, by simpa using h2, h3⟩
  have FIN : Hid _ := @fin
  clear fin
  obtain ⟨v', vr, e, hnode, _⟩ := hfo
  obtain ⟨rfl, rfl⟩ := List.cons.inj e
  have hcl := hok.1
  have hby := hok.2.1
  rcases hnode with ⟨h0, rfl⟩ | ⟨h0, rfl⟩ | ⟨h0, rfl⟩ | ⟨h0, b, g, cq, vs, rfl, hcomp⟩
  · have hk : k = .nil := hok.2.2.2.1 (by rw [h0]; decide)
    obtain ⟨c0, c1, c2⟩ := c
    simp only at h0 hcl
    subst h0 hk
    have e2 : c2 = [] := by (have hz : c2.length = 0 := by unfold cellG at hcl; omega); exact List.eq_nil_of_length_eq_zero hz
    subst e2
    have HS := appVar_any c1 none 0 0 [] w.heap.size w (Nat.le_refl _) (by decide) nil
    clear hok hcl hby e nil
    go_enter Tryz.func45, Tryz.ntmps45
    go_wp2_with fail
    refine HS.mono ?_
    rintro e w1 ⟨p3, n3, c3, rfl, h1, h2⟩
    have HF := FIN.out ⟨p3, n3, c3, rfl, h1, h2⟩
    have HFF : Hid _ := HF
    clear HF h1 h2
    go_wp2_with fail
    go_ret
    exact HFF.out
  · have hk : k = .nil := hok.2.2.2.1 (by rw [h0]; decide)
    obtain ⟨c0, c1, c2⟩ := c
    simp only at h0 hcl
    subst h0 hk
    have e2 : c2 = [] := by (have hz : c2.length = 0 := by unfold cellG at hcl; omega); exact List.eq_nil_of_length_eq_zero hz
    subst e2
    have HS := appNum_any c1 none 0 0 [] w.heap.size w (Nat.le_refl _) (by decide) nil
    clear hok hcl hby e nil
    go_enter Tryz.func45, Tryz.ntmps45
    go_wp2_with fail
    refine HS.mono ?_
    rintro e w1 ⟨p3, n3, c3, rfl, h1, h2⟩
    have HF := FIN.out ⟨p3, n3, c3, rfl, h1, h2⟩
    have HFF : Hid _ := HF
    clear HF h1 h2
    go_wp2_with fail
    go_ret
    exact HFF.out
  · have hk : k = .nil := hok.2.2.2.1 (by rw [h0]; decide)
    obtain ⟨c0, c1, c2⟩ := c
    simp only at h0 hcl hby
    subst h0 hk
    have e2 : c1 = 0 := by unfold cellG at hcl; omega
    subst e2
    have HS := appAtom_any c2 hby none 0 0 [] w.heap.size w (Nat.le_refl _) (by decide) nil
    obtain ⟨str, es⟩ : ∃ str, str = strOfNums c2 := ⟨_, rfl⟩
    simp only
    rw [← es] at HS ⊢
    clear hok hcl hby e nil es
    go_enter Tryz.func45, Tryz.ntmps45
    go_wp2_with fail
    refine HS.mono ?_
    rintro e w1 ⟨p3, n3, c3, rfl, h1, h2⟩
    have HF := FIN.out ⟨p3, n3, c3, rfl, h1, h2⟩
    have HFF : Hid _ := HF
    clear HF h1 h2
    go_wp2_with fail
    go_ret
    exact HFF.out
  · have hcn := hok.2.2.1 h0
    obtain ⟨c0, c1, c2⟩ := c
    simp only at h0 hcl hby hcn hcomp
    subst h0 hcn
    have HS := appCompC_any k.cells.length c2 k b g cq vs none 0 0 [] w.heap.size w w (Nat.le_refl _) hok.2.2.2.2.1 hby hcomp (Below.refl _ _) (Nat.le_refl _) (Nat.le_refl _) nil (by omega)
    clear hok hcl hby e nil hcomp
    go_enter Tryz.func45, Tryz.ntmps45
    go_wp2_with fail
    refine HS.mono ?_
    rintro e w1 ⟨p3, n3, c3, rfl, h1, h2⟩
    have HF := FIN.out ⟨p3, n3, c3, rfl, h1, h2⟩
    have HFF : Hid _ := HF
    clear HF h1 h2
    go_wp2_with fail
    go_ret
    exact HFF.out
end Go.Proofs.YtbnmmcegjlmdmaaGreatDoor

