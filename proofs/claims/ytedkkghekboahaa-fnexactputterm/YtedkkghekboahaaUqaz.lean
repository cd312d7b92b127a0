/- Texts of Vars1, Vars2, VarO. Own work of the verifier. -/
import Derived.Test.YtedkkghekboahaaUqax
namespace Go.Proofs.Ytedkkghekboahaa
open Go Go.RowKit Go.Maps
set_option linter.unusedVariables false

/-- The state that the visits share. -/
structure VState (w : World) (B vb nb mb : Nat) (ks : List Int) (p : Option Addr) (n c : Nat) : Prop where
  vcell : w.cell? ⟨vb, 0, none⟩ = some (.slice p n c)
  vfree : w.frozen? ⟨vb, 0, none⟩ = false
  ncell : w.cell? ⟨nb, 0, none⟩ = some (.map (some mb))
  len : n = ks.length
  row : w.ownsRow B 120 1 (.slice p n c) n (ks.map (Value.int .i64))
  map : NumMap w mb ks
  bv : B ≤ vb
  bn : B ≤ nb
  bm : B ≤ mb
  away : ∀ g, p = some ⟨g, 0, none⟩ → g ≠ vb ∧ g ≠ nb
theorem VState.map_ne {w : World} {B vb nb mb : Nat} {ks : List Int} {p : Option Addr} {n c : Nat} (h : VState w B vb nb mb ks p n c) : mb ≠ vb ∧ mb ≠ nb ∧ ∀ g, p = some ⟨g, 0, none⟩ → g ≠ mb := by
  obtain ⟨D, ⟨es, clock, hb, _⟩, _⟩ := h.map
  refine ⟨fun e => ?_, fun e => ?_, fun g e e' => ?_⟩
  · have := h.vcell; rw [← e] at this; simp [World.cell?, hb] at this
  · have := h.ncell; rw [← e] at this; simp [World.cell?, hb] at this
  · rcases h.row.2 with ⟨hv, _⟩ | ⟨g', cap, cur, hv, _, hg, _⟩
    · simp only [Value.slice.injEq] at hv; rw [e] at hv; cases hv.1
    · simp only [Value.slice.injEq] at hv
      rw [e] at hv
      have e2 : g = g' := congrArg Addr.block (Option.some.inj hv.1)
      rw [← e2, e', hb] at hg
      cases hg
theorem VState.vn {w : World} {B vb nb mb : Nat} {ks : List Int} {p : Option Addr} {n c : Nat} (h : VState w B vb nb mb ks p n c) : vb ≠ nb := fun e => by
  have h1 := h.vcell
  rw [e, h.ncell] at h1
  cases h1
theorem VState.drew {w : World} {B vb nb mb : Nat} {ks : List Int} {p : Option Addr} {n c : Nat} (h : VState w B vb nb mb ks p n c) : VState w.drew B vb nb mb ks p n c := ⟨h.1, h.2, h.3, h.4, h.5, h.6, h.7, h.8, h.9, h.10⟩
set_option maxRecDepth 100000 in
theorem visitOther_any (t : TypeId) (x : Value) (vb nb : Nat) (w : World) (ht : t = 121 ∨ t = 122 ∨ t = 158) :
    Calls Try.prog 111 #[.iface t x, .pointer (some ⟨nb, 0, none⟩), .pointer (some ⟨vb, 0, none⟩)] w fun e w' => e = .returned (.tuple #[]) ∧ ∃ m, w' = w.drewN m := by
  have n1 := noVar_num
  have n2 := noVar_atom
  have n3 := noVar_comp
  rcases ht with rfl | rfl | rfl
  all_goals
    go_enter Try.func111, Try.ntmps111
    go_wp2_with fail
    go_region
    all_goals go_wp2_with fail
    all_goals go_end0
    all_goals exact ⟨rfl, 1, rfl⟩
theorem VState.after {w w1 : World} {B vb nb mb : Nat} {ks ks' : List Int} {p : Option Addr} {n c : Nat} (h : VState w B vb nb mb ks p n c) (hm : NumMap w1 mb ks') (hg : w.grownBy w1 (some mb)) :
    w1.cell? ⟨vb, 0, none⟩ = some (.slice p n c) ∧ w1.frozen? ⟨vb, 0, none⟩ = false ∧ w1.cell? ⟨nb, 0, none⟩ = some (.map (some mb)) ∧ w1.ownsRow B 120 1 (.slice p n c) n (ks.map (Value.int .i64)) ∧ Below B w w1 := by
  have hne := h.map_ne
  have e1 := hg.block vb (World.block_lt_of_cell? _ _ h.vcell) (fun e => hne.1 (Option.some.inj e).symm)
  have e2 := hg.block nb (World.block_lt_of_cell? _ _ h.ncell) (fun e => hne.2.1 (Option.some.inj e).symm)
  refine ⟨(World.cell?_of_block (w := w) e1).trans h.vcell, (World.frozen?_of_block (w := w) e1).trans h.vfree, (World.cell?_of_block (w := w) e2).trans h.ncell, h.row.kept hg ?_, (Below.refl _ _).grown hg (by have := h.map.lt; have := h.bm; omega) (fun k e => by cases e; exact h.bm)⟩
  rcases h.row.2 with ⟨hv, _⟩ | ⟨g, cap, cur, hv, _⟩
  · simp only [Value.slice.injEq] at hv; rw [hv.1]; exact .inl rfl
  · simp only [Value.slice.injEq] at hv
    rw [hv.1]
    exact .inr (fun e => hne.2.2 g hv.1 (Option.some.inj e))
set_option maxRecDepth 100000 in
set_option maxHeartbeats 2000000 in
theorem visitVar_any (x : Int) (B vb nb mb : Nat) (ks : List Int) (p : Option Addr) (n c : Nat) (w : World) (h0 : 0 ≤ x) (h1 : x ≤ 1000000) (hl : ks.length ≤ 100000) (hs : VState w B vb nb mb ks p n c) :
    Calls Try.prog 111 #[.iface 120 (.int .i64 x), .pointer (some ⟨nb, 0, none⟩), .pointer (some ⟨vb, 0, none⟩)] w fun e w' => e = .returned (.tuple #[]) ∧ (∃ p' n' c', VState w' B vb nb mb (putV ks x) p' n' c') ∧ Below B w w' := by
  have HOF : Hid (∀ k, Calls Try.prog 112 #[.map (some mb), .int .i64 x] (w.drewN k) fun e w' => e = .returned (.int .i64 (ks.idxOf x)) ∧ NumMap w' mb (putV ks x) ∧ (w.drewN k).grownBy w' (some mb)) := fun k => of_any mb ks x (w.drewN k) h0 h1 (by omega) (hs.map.of_block rfl)
  have n1 := isVar
  have c1 := hs.ncell
  have c2 := hs.vcell
  have hnl := hs.len
  have HS : Hid (VState w B vb nb mb ks p n c) := hs
  obtain ⟨ix, ei⟩ : ∃ ix : Nat, ix = ks.idxOf x := ⟨_, rfl⟩
  rw [← ei] at HOF
  obtain ⟨bb, eb⟩ : ∃ bb : Bool, bb = ((ix : Int) == (n : Int)) := ⟨_, rfl⟩
  have HIX : Hid (ix = ks.idxOf x) := ei
  have hnb : n ≤ 100000 := by omega
  have HNL : Hid (n = ks.length) := hnl
  clear hs ei hnl
  go_enter Try.func111, Try.ntmps111
  go_upto_region 1 with fail
  go_cut [19] from 6 (fun b wc => b = .bool bb ∧ Hid (NumMap wc mb (putV ks x) ∧ w.grownBy wc (some mb)))
  case first =>
    go_region_with (go_at_call 112; refine (HOF.out 1).mono ?_; rintro e w1 ⟨rfl, hm1, hg1⟩; have d2 : w1.cell? ⟨vb, 0, none⟩ = some (.slice p n c) := (HS.out.drew.after hm1 hg1).1)
    all_goals go_wp2_with fail
    all_goals go_meet
    all_goals exact ⟨by rw [eb], hm1, ⟨hg1.os, hg1.tape, hg1.output, hg1.size, hg1.block⟩⟩
  case rest =>
    obtain ⟨rfl, HG⟩ := hcut
    obtain ⟨a1, a2, a3, a4, a5⟩ := HS.out.after HG.out.1 HG.out.2
    by_cases hx : x ∈ ks
    · have hbb : bb = false := by rw [eb]; have := List.idxOf_lt_length_of_mem hx; have := HIX.out; have := HNL.out; simp; omega
      subst hbb
      have hp : putV ks x = ks := by rw [putV, if_pos hx]
      have HF : Hid (∃ p' n' c', VState wc B vb nb mb (putV ks x) p' n' c') := ⟨p, n, c, by rw [hp]; exact ⟨a1, a2, a3, HNL.out, a4, by have := HG.out.1; rwa [hp] at this, HS.out.bv, HS.out.bn, HS.out.bm, HS.out.away⟩⟩
      have HB : Hid _ := a5
      clear eb hx hp a1 a2 a3 a4 a5
      go_wp2_with fail
      go_end0
      exact ⟨rfl, HF.out, HB.out⟩
    · have hbb : bb = true := by rw [eb]; have := List.idxOf_eq_length hx; have := HIX.out; have := HNL.out; simp; omega
      subst hbb
      have hp : putV ks x = ks ++ [x] := by rw [putV, if_neg hx]
      have HP : Hid _ := hp
      obtain ⟨i0, hi, hz0, hz1, hz2⟩ := info_parts infoVar
      have HR : Hid ((wc.alloc (.cells #[.int .i64 x] 120)).ownsRow B 120 1 (.slice p n c) n (ks.map (Value.int .i64))) := a4.alloc _
      have HB : Hid (Below B w wc) := a5
      have hBc : B ≤ wc.heap.size := by have := HS.out.bm; have := HS.out.map.lt; have := HG.out.2.size; omega
      have HL : Hid (∀ k, Value.ownBlock (.slice p n c) = some k → B ≤ k ∧ k ≠ vb ∧ k ≠ nb ∧ k ≠ mb ∧ k < wc.heap.size) := fun k hk => by
        have h1 := a4.lt k hk
        rcases a4.2 with ⟨hv, _⟩ | ⟨g, cap, cur, hv, _⟩
        · simp only [Value.slice.injEq] at hv; rw [hv.1] at hk; cases hk
        · simp only [Value.slice.injEq] at hv
          rw [hv.1] at hk
          have e : k = g := (Option.some.inj hk).symm
          subst e
          exact ⟨h1.1, (HS.out.away k hv.1).1, (HS.out.away k hv.1).2, HS.out.map_ne.2.2 k hv.1, h1.2⟩
      have hlv := World.block_lt_of_cell? _ _ a1
      have hln := World.block_lt_of_cell? _ _ a3
      have HA : Hid ((wc.cell? ⟨vb, 0, none⟩ = some (.slice p n c) ∧ wc.frozen? ⟨vb, 0, none⟩ = false ∧ wc.cell? ⟨nb, 0, none⟩ = some (.map (some mb)))) := ⟨a1, a2, a3⟩
      clear eb hx hp a2 a3 a4 a5
      go_wp2_with (at_builtin; refine wpList_append_lies _ rfl _ _ 152 rfl B 120 i0 (.int .i64 0) 1 8 Try.underlying152 hi hz0 hz1 hz2 rfl (by decide) (.slice p n c) n (ks.map (Value.int .i64)) rfl HR.out ⟨wc.heap.size, 0, none⟩ 1 1 [.int .i64 x] rfl rfl (cell_one_new _ _ _) (ints_oneCell .i64 [x]) (by decide) (by unfold maxLen; omega) (by omega) (by simp; omega) _ rfl ?_; intro g cap w2 hown2 hgrow2 hat2 hlt2; have bv := blk_app hgrow2 hlv (fun e => (HL.out vb e.symm).2.1 rfl); have e1 := (World.cell?_of_block (w := wc) (a := ⟨vb, 0, none⟩) bv).trans HA.out.1; have e2 := (World.frozen?_of_block (w := wc) (a := ⟨vb, 0, none⟩) bv).trans HA.out.2.1)
      go_end0
      have bn := blk_app hgrow2 hln (fun e => (HL.out nb e.symm).2.2.1 rfl)
      have bm := blk_app hgrow2 HG.out.1.lt (fun e => (HL.out mb e.symm).2.2.2.1 rfl)
      have hgn : g ≠ vb ∧ g ≠ nb ∧ g ≠ mb := by
        rcases hat2 with h | h
        · have := HL.out g h; exact ⟨this.2.1, this.2.2.1, this.2.2.2.1⟩
        · have := HG.out.1.lt
          simp at h hlv hln; omega
      have hvn := HS.out.vn
      have hmv := HS.out.map_ne.1
      refine ⟨rfl, ⟨some ⟨g, 0, none⟩, n + 1, cap, ?_⟩, ?_⟩
      · rw [HP.out]
        refine ⟨World.cell?_setCell_same _ _ _ e1, by rw [World.frozen?_setCell]; exact e2, (World.cell?_setCell_other _ _ _ _ (fun e => hvn (congrArg Addr.block e))).trans ((World.cell?_of_block (w := wc) (a := ⟨nb, 0, none⟩) bn).trans HA.out.2.2), by simp; exact HNL.out, ?_, ?_, HS.out.bv, HS.out.bn, HS.out.bm, fun k e => ?_⟩
        · rw [List.map_append]
          exact ownsRow_setCell_other hown2 (by simp [Value.ownBlock]; exact hgn.1) _
        · have := HG.out.1
          rw [HP.out] at this
          exact (this.of_block bm).of_block (Below.heap_setCell _ _ _ _ hmv)
        · have : g = k := congrArg Addr.block (Option.some.inj e)
          rw [← this]; exact ⟨hgn.1, hgn.2.1⟩
      · exact (HB.out.trans (((Below.refl _ _).alloc hBc _).grown hgrow2 (by simp; omega) (fun k e => (HL.out k e).1))).setCell (p := ⟨vb, 0, none⟩) HS.out.bv _

end Go.Proofs.Ytedkkghekboahaa

namespace Go.Proofs.Ytedkkghekboahaa
open Go Go.RowKit Go.Maps
set_option linter.unusedVariables false

theorem VState.below {w w' : World} {B vb nb mb : Nat} {ks : List Int} {p : Option Addr} {n c : Nat} (h : VState w B vb nb mb ks p n c) (hb : Below w.heap.size w w') : VState w' B vb nb mb ks p n c :=
  ⟨(hb.cell (World.block_lt_of_cell? _ _ h.1)).trans h.1, (hb.frozen (World.block_lt_of_cell? _ _ h.1)).trans h.2, (hb.cell (World.block_lt_of_cell? _ _ h.3)).trans h.3, h.4, row_below h.5 hb, h.6.of_block (hb.block _ h.6.lt), h.7, h.8, h.9, h.10⟩
/-- A visit of whatever node. -/
theorem visit_any (c : Cel) (K : List Value → Prop) (v : Value) (Bt B vb nb mb : Nat) (ks : List Int) (p : Option Addr) (n cp : Nat) (w0 w : World) (hc : cellB c.1 c.2.1 c.2.2.length = true) (hl : ks.length ≤ 100000) (hn : NodeIn w0 Bt c K v) (hs : VState w B vb nb mb ks p n cp) :
    Calls Try.prog 111 #[v, .pointer (some ⟨nb, 0, none⟩), .pointer (some ⟨vb, 0, none⟩)] w fun e w' => e = .returned (.tuple #[]) ∧ (∃ p' n' c', VState w' B vb nb mb (visitL ks c) p' n' c') ∧ Below B w w' := by
  have oth : ∀ (t : TypeId) (x : Value), (t = 121 ∨ t = 122 ∨ t = 158) → c.1 ≠ 0 → Calls Try.prog 111 #[.iface t x, .pointer (some ⟨nb, 0, none⟩), .pointer (some ⟨vb, 0, none⟩)] w fun e w' => e = .returned (.tuple #[]) ∧ (∃ p' n' c', VState w' B vb nb mb (visitL ks c) p' n' c') ∧ Below B w w' := fun t x ht h0 =>
    (visitOther_any t x vb nb w ht).mono fun e w' ⟨he, m, hw⟩ => by
      have hb : ∀ A, Below A w w' := fun A => by rw [hw]; exact ⟨rfl, rfl, rfl, Nat.le_refl _, fun _ _ => rfl⟩
      exact ⟨he, ⟨p, n, cp, by rw [visitL, if_neg h0]; exact hs.below (hb _)⟩, hb _⟩
  rcases hn with ⟨h0, rfl⟩ | ⟨h0, rfl⟩ | ⟨h0, rfl⟩ | ⟨h0, b, g, vs, rfl, _⟩
  · rw [h0] at hc
    have hx : 0 ≤ c.2.1 ∧ c.2.1 ≤ 1000000 := by simp [cellB] at hc; omega
    rw [visitL, if_pos h0]
    exact visitVar_any c.2.1 B vb nb mb ks p n cp w hx.1 hx.2 hl hs
  · exact oth _ _ (.inl rfl) (by rw [h0]; decide)
  · exact oth _ _ (.inr (.inl rfl)) (by rw [h0]; decide)
  · exact oth _ _ (.inr (.inr rfl)) (by rw [h0]; decide)
/-- What a walk leaves. -/
def WalkOut (w : World) (B vb nb mb : Nat) (ks : List Int) (e : Ending) (w' : World) : Prop := e = .returned (.tuple #[]) ∧ (∃ p n c, VState w' B vb nb mb ks p n c) ∧ Below B w w'
set_option maxRecDepth 100000 in
set_option maxHeartbeats 1000000 in
theorem walk_any : ∀ (N : Nat) (c : Cel) (k : Fo) (v : Value) (Bt B vb nb mb : Nat) (ks : List Int) (p : Option Addr) (n cp : Nat) (w0 w : World), k.cells.length ≤ N → (Fo.node c k .nil).ok → FoIn w0 Bt (.node c k .nil) [v] → Below w0.heap.size w0 w → w0.heap.size ≤ B → B ≤ w.heap.size → VState w B vb nb mb ks p n cp → ks.length + 1 + k.cells.length ≤ 100000 →
    Calls Try.prog 110 #[v, .func (.func 111) #[] #[.pointer (some ⟨nb, 0, none⟩), .pointer (some ⟨vb, 0, none⟩)]] w (WalkOut w B vb nb mb (visits ks (c :: k.cells))) := by
  intro N
  induction N using Nat.strongRecOn with
  | _ N ih =>
    intro c k v Bt B vb nb mb ks p n cp w0 w hN hok hfo hw hB0 hB hs hlen
    obtain ⟨v', vr, e, hnode, _⟩ := hfo
    obtain ⟨rfl, rfl⟩ := List.cons.inj e
    have HV := visit_any c _ v Bt B vb nb mb ks p n cp w0 w hok.1 (by omega) hnode hs
    rw [visits_cons]
    have hvl := visitL_len ks c
    have HIH : Hid _ := ih
    have HW : Hid (Below w0.heap.size w0 w) := hw
    have leaf : ∀ (t : TypeId) (x : Value), v = .iface t x → (t = 120 ∨ t = 121 ∨ t = 122) → c.1 ≠ 3 → Calls Try.prog 110 #[v, .func (.func 111) #[] #[.pointer (some ⟨nb, 0, none⟩), .pointer (some ⟨vb, 0, none⟩)]] w (WalkOut w B vb nb mb (visits (visitL ks c) k.cells)) := fun t x hv ht h3 => by
      have hk : k = .nil := hok.2.2.2.1 h3
      subst hk hv
      have HA := fun W => argsLeaf_any t x W ht
      clear hok hnode hs HIH ih e hw
      go_enter Try.func110, Try.ntmps110
      go_wp2_with fail
      refine HV.mono ?_
      rintro e w1 ⟨rfl, hst, hb⟩
      go_wp2_with fail
      refine (HA _).mono ?_
      rintro e w2 ⟨rfl, rfl⟩
      go_wp2_with fail
      refine wp_loop_rounds 1 ?_
      rw [rounds_succ]
      go_wp2_with fail
      go_end0
      exact ⟨rfl, hst, hb⟩
    rcases hnode with ⟨h0, hv⟩ | ⟨h0, hv⟩ | ⟨h0, hv⟩ | ⟨h0, b, g, vs, hv, hcomp⟩
    · exact leaf _ _ hv (.inl rfl) (by rw [h0]; decide)
    · exact leaf _ _ hv (.inr (.inl rfl)) (by rw [h0]; decide)
    · exact leaf _ _ hv (.inr (.inr rfl)) (by rw [h0]; decide)
    · subst hv
      clear leaf
      have HC : Hid (CompAt w0 Bt c.2.2 k b g vs) := hcomp
      have hvl2 : vs.length = k.count := FoIn.count _ _ hcomp.2.2.2.2.2.2
      obtain ⟨q, eq⟩ : ∃ q, q = vs.length := ⟨_, rfl⟩
      have HE : Hid (q = vs.length ∧ vs.length = k.count) := ⟨eq, hvl2⟩
      have hq : q ≤ 100000 := by have := Fo.count_le k; omega
      have HK : Hid k.ok := hok.2.2.2.2.1
      have HBB : Hid (b < w0.heap.size ∧ w0.cell? ⟨b, 1, none⟩ = some (.slice (some ⟨g, 0, none⟩) q q)) := ⟨World.block_lt_of_cell? _ _ hcomp.2.2.2.1, by rw [eq]; exact hcomp.2.2.2.1⟩
      clear hcomp hok hs ih e hw eq hvl2
      go_enter Try.func110, Try.ntmps110
      go_wp2_with fail
      refine HV.mono ?_
      rintro e w1 ⟨rfl, hst, hb1⟩
      have d1 : w1.cell? ⟨b, 1, none⟩ = some (.slice (some ⟨g, 0, none⟩) q q) := (((HW.out.trans (hb1.mono hB0)).cell (p := ⟨b, 1, none⟩) HBB.out.1)).trans HBB.out.2
      have HST : Hid _ := hst
      have HB1 : Hid (Below B w w1) := hb1
      clear hst hb1 HV
      go_wp2_with fail
      refine (argsComp_any b g q _ d1).mono ?_
      rintro e w2 ⟨rfl, hw2⟩
      subst hw2
      clear d1
      go_wp2_with fail
      go_loopw [12] (fun i wr => ∃ (D R : Fo) (us vs2 : List Value) (j : Nat), j ≤ q ∧ i = .int .i64 j ∧ Hid (k = D.cat R ∧ vs = us ++ vs2 ∧ us.length = j) ∧ Hid (FoIn w0 Bt R vs2) ∧ Hid (∃ p n c', VState wr B vb nb mb (visits (visitL ks c) D.cells) p n c') ∧ Hid (Below B w wr)) (fun i _ => q - (intOf i).toNat)
      case atStart => exact ⟨.nil, k, [], vs, 0, Nat.zero_le _, rfl, ⟨rfl, rfl, rfl⟩, HC.out.2.2.2.2.2.2, HST, HB1⟩
      case round =>
        obtain ⟨D, R, us, vs2, j, hj, rfl, HF, HR, HS, HB⟩ := hrel
        by_cases hlt : j < q
        · obtain ⟨c', k', r', rfl⟩ : ∃ c' k' r', R = .node c' k' r' := by
            cases R with
            | nil =>
              have h1 := HF.out
              have h2 : vs2 = [] := HR.out
              have h3 := HE.out.1
              rw [h1.2.1, h2, List.append_nil] at h3
              omega
            | node c' k' r' => exact ⟨c', k', r', rfl⟩
          obtain ⟨v, vr, rfl, hnode, hrest⟩ := HR.out
          have hok2 := (Fo.ok_cat D (.node c' k' r')).1 (HF.out.1 ▸ HK.out)
          have hl2 : D.cells.length + (k'.cells.length + r'.cells.length + 1) = k.cells.length := by
            rw [HF.out.1, Fo.cells_cat]; simp [Fo.cells]
          have hat : w0.cell? ⟨g, j, none⟩ = some v := by
            rw [HC.out.2.2.2.2.2.1 j (by rw [← HE.out.1]; exact hlt), HF.out.2.1]
            simp [List.getD, HF.out.2.2]
          have hwr : Below w0.heap.size w0 wr := HW.out.trans (HB.out.mono hB0)
          have c5 : wr.cell? ⟨g, j, none⟩ = some v := (hwr.cell (World.block_lt_of_cell? _ _ hat)).trans hat
          obtain ⟨p4, n4, c4, hs4⟩ := HS.out
          have hB4 : B ≤ wr.heap.size := Nat.le_trans hB HB.out.size
          have HWK := HIH.out k'.cells.length (by omega) c' k' v Bt B vb nb mb (visits (visitL ks c) D.cells) p4 n4 c4 w0 wr (Nat.le_refl _) ⟨hok2.2.1, hok2.2.2.1, hok2.2.2.2.1, hok2.2.2.2.2.1, hok2.2.2.2.2.2.1, trivial⟩ ⟨v, [], rfl, hnode, rfl⟩ hwr hB0 hB4 hs4 (by have := visits_len D.cells (visitL ks c); omega)
          obtain ⟨vt, vx, rfl⟩ := hnode.iface
          have HRR : Hid (FoIn w0 Bt r' vr) := hrest
          clear hok2 hl2 hat hwr hs4 hnode hrest HIH
          go_wp2_with fail
          refine HWK.mono ?_
          rintro e w3 ⟨rfl, hst3, hb3⟩
          have HN : Hid (k = (D.cat (.node c' k' .nil)).cat r' ∧ vs = (us ++ [.iface vt vx]) ++ vr ∧ (us ++ [Value.iface vt vx]).length = j + 1) := ⟨by rw [Fo.cat_assoc]; exact HF.out.1, by rw [HF.out.2.1]; simp, by simp [HF.out.2.2]⟩
          have HST3 : Hid (∃ p n c2, VState w3 B vb nb mb (visits (visitL ks c) (D.cat (.node c' k' .nil)).cells) p n c2) := by
            show ∃ p n c2, VState w3 B vb nb mb _ p n c2
            rw [Fo.cells_cat, visits_append]; simpa [Fo.cells] using hst3
          have HB3 : Hid (Below B w w3) := HB.out.trans hb3
          clear hst3 hb3 HWK
          go_wp2_with fail
          go_roundw
          case rel => exact ⟨D.cat (.node c' k' .nil), r', us ++ [.iface vt vx], vr, j + 1, by omega, by go_num, HN, HRR, HST3, HB3⟩
          case measure => simp [intOf]; omega
        · obtain rfl : j = q := by omega
          obtain rfl : R = .nil := by
            have h1 := FoIn.count _ _ HR.out
            have h2 := HE.out
            rw [HF.out.2.1, List.length_append] at h2
            have h3 := HF.out.2.2
            cases R with
            | nil => rfl
            | node a b d => simp [Fo.count] at h1; omega
          have HF' : Hid (D = k) := by have := HF.out.1; rw [Fo.cat_nil] at this; exact this.symm
          go_wp2_with fail
          go_end0
          refine ⟨rfl, ?_, HB.out⟩
          have h1 := HS.out
          rwa [HF'.out] at h1

end Go.Proofs.Ytedkkghekboahaa

namespace Go.Proofs.Ytedkkghekboahaa
open Go Go.RowKit Go.Maps
set_option linter.unusedVariables false

set_option maxRecDepth 100000 in
theorem variablesOf_any (c : Cel) (k : Fo) (v : Value) (Bt : Nat) (w : World) (hok : (Fo.node c k .nil).ok) (hfo : FoIn w Bt (.node c k .nil) [v]) (hl : k.cells.length ≤ 10000) :
    Calls Try.prog 98 #[v] w fun e w' => ∃ p n cp, e = .returned (.slice p n cp) ∧ OwnI w' w.heap.size 120 p n cp (visits [] (c :: k.cells)) ∧ Below w.heap.size w w' := by
  have hmm := @run_makeMap Try.prog
  obtain ⟨vt, vx, rfl⟩ := hfo.iface
  have hW : Below w.heap.size w (((w.alloc (Obj.cells #[Value.slice none 0 0] 152)).alloc (Obj.map #[] 0)).alloc (Obj.cells #[Value.map (some (w.heap.size + 1))] 172)) := (((Below.refl _ _).alloc (Nat.le_refl _) _).alloc (by simp) _).alloc (by simp; omega) _
  have hS : VState (((w.alloc (Obj.cells #[Value.slice none 0 0] 152)).alloc (Obj.map #[] 0)).alloc (Obj.cells #[Value.map (some (w.heap.size + 1))] 172)) w.heap.size w.heap.size (w.heap.size + 1 + 1) (w.heap.size + 1) [] none 0 0 := by
    have h0 : (((w.alloc (Obj.cells #[Value.slice none 0 0] 152)).alloc (Obj.map #[] 0)).alloc (Obj.cells #[Value.map (some (w.heap.size + 1))] 172)).heap[w.heap.size]? = some (Obj.cells #[Value.slice none 0 0] 152) := (Below.heap_alloc _ _ _ (by simp; omega)).trans ((Below.heap_alloc _ _ _ (by simp)).trans (heap_alloc_new _ _))
    have h3 := heap_three w (Obj.cells #[Value.slice none 0 0] 152) (Obj.map #[] 0) (Obj.cells #[Value.map (some (w.heap.size + 1))] 172)
    refine ⟨cell_of_row _ _ 0 _ _ _ h0, frozen_of_row _ _ 0 _ _ h0, cell_of_row _ _ 0 _ _ _ h3.2, rfl, World.ownsRow_nil _ _ _ _, ?_, Nat.le_refl _, by omega, by omega, fun g e => by cases e⟩
    have hm := NumMap.made (w.alloc (Obj.cells #[Value.slice none 0 0] 152))
    have e : (w.alloc (Obj.cells #[Value.slice none 0 0] 152)).heap.size = w.heap.size + 1 := by simp
    rw [e] at hm
    exact hm.of_block (Below.heap_alloc _ _ _ (by simp))
  have HWK := walk_any k.cells.length c k _ Bt w.heap.size w.heap.size (w.heap.size + 1 + 1) (w.heap.size + 1) [] none 0 0 w _ (Nat.le_refl _) hok hfo hW (Nat.le_refl _) hW.size hS (by simp; omega)
  have HW : Hid _ := hW
  clear hok hfo hS hW
  go_enter Try.func98, Try.ntmps98
  go_wp2_with fail
  refine HWK.mono ?_
  rintro e w1 ⟨rfl, ⟨p, n, cp, hst⟩, hb⟩
  have d0 := hst.vcell
  have HR : Hid (OwnI w1 w.heap.size 120 p n cp (visits [] (c :: k.cells))) := ⟨hst.len, hst.row⟩
  have HB : Hid (Below w.heap.size w w1) := HW.out.trans hb
  clear hst hb HWK
  go_wp2_with fail
  go_ret
  exact ⟨_, _, _, rfl, HR.out, HB.out⟩

end Go.Proofs.Ytedkkghekboahaa

