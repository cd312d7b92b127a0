/- The visit of variablesOf. Own work of the verifier. -/
import Derived.Test.YtopdhjnpcpkmlaaNum
namespace Go.Proofs.Ytopdhjnpcpkmlaa
open Go Go.RowKit Go.Maps
set_option linter.unusedVariables false

theorem infoVar : (Try.prog.info? 67).map (fun i => (i.zero, i.size, i.bytes)) = some (some (.int .i64 0), 1, 8) := by kernel_rfl

/-- What a visit of a cell makes of the list of variables. -/
def visitL (ks : List Int) (c : Cel) : List Int := if c.1 = 0 then putV ks c.2.1 else ks
/-- The state that the visits share. -/
structure VState (w : World) (B vb nb mb : Nat) (ks : List Int) (p : Option Addr) (n c : Nat) : Prop where
  vcell : w.cell? ⟨vb, 0, none⟩ = some (.slice p n c)
  vfree : w.frozen? ⟨vb, 0, none⟩ = false
  ncell : w.cell? ⟨nb, 0, none⟩ = some (.map (some mb))
  len : n = ks.length
  row : w.ownsRow B 67 1 (.slice p n c) n (ks.map (Value.int .i64))
  map : NumMap w mb ks
  bv : B ≤ vb
  bn : B ≤ nb
  bm : B ≤ mb
  away : ∀ g, p = some ⟨g, 0, none⟩ → g ≠ vb ∧ g ≠ nb
theorem VState.map_ne {w : World} {B vb nb mb : Nat} {ks : List Int} {p : Option Addr} {n c : Nat} (h : VState w B vb nb mb ks p n c) : mb ≠ vb ∧ mb ≠ nb ∧ ∀ g, p = some ⟨g, 0, none⟩ → g ≠ mb := by
  obtain ⟨D, ⟨es, clock, hb, _⟩, _⟩ := h.map
  refine ⟨fun e => ?_, fun e => ?_, fun g e e' => ?_⟩
  · have := h.vcell; rw [← e] at this; simp [World.cell?, hb] at this
  · have := h.ncell; rw [← e] at this; simp [World.cell?, hb] at this
  · rcases h.row.2 with ⟨hv, _⟩ | ⟨g', cap, cur, hv, _, hg, _⟩
    · simp only [Value.slice.injEq] at hv; rw [e] at hv; cases hv.1
    · simp only [Value.slice.injEq] at hv
      rw [e] at hv
      have e2 : g = g' := congrArg Addr.block (Option.some.inj hv.1)
      rw [← e2, e', hb] at hg
      cases hg
theorem VState.vn {w : World} {B vb nb mb : Nat} {ks : List Int} {p : Option Addr} {n c : Nat} (h : VState w B vb nb mb ks p n c) : vb ≠ nb := fun e => by
  have h1 := h.vcell
  rw [e, h.ncell] at h1
  cases h1
theorem VState.drew {w : World} {B vb nb mb : Nat} {ks : List Int} {p : Option Addr} {n c : Nat} (h : VState w B vb nb mb ks p n c) : VState w.drew B vb nb mb ks p n c := ⟨h.1, h.2, h.3, h.4, h.5, h.6, h.7, h.8, h.9, h.10⟩

theorem noVar_num (w : World) (x : Value) : (Instr.typeAssert (.iface 107 x) 59 67 true).run Try.prog w = .ok (.tuple #[.int .i64 0, .bool false]) w := by kernel_rfl
theorem noVar_atom (w : World) (x : Value) : (Instr.typeAssert (.iface 76 x) 59 67 true).run Try.prog w = .ok (.tuple #[.int .i64 0, .bool false]) w := by kernel_rfl
theorem noVar_comp (w : World) (x : Value) : (Instr.typeAssert (.iface 100 x) 59 67 true).run Try.prog w = .ok (.tuple #[.int .i64 0, .bool false]) w := by kernel_rfl
theorem isVar (w : World) (x : Value) : (Instr.typeAssert (.iface 67 x) 59 67 true).run Try.prog w = .ok (.tuple #[x, .bool true]) w := by kernel_rfl
theorem noComp_var (w : World) (x : Value) : (Instr.typeAssert (.iface 67 x) 59 100 true).run Try.prog w = .ok (.tuple #[.pointer none, .bool false]) w := by kernel_rfl
theorem noComp_num (w : World) (x : Value) : (Instr.typeAssert (.iface 107 x) 59 100 true).run Try.prog w = .ok (.tuple #[.pointer none, .bool false]) w := by kernel_rfl
theorem noComp_atom (w : World) (x : Value) : (Instr.typeAssert (.iface 76 x) 59 100 true).run Try.prog w = .ok (.tuple #[.pointer none, .bool false]) w := by kernel_rfl
theorem isComp (w : World) (x : Value) : (Instr.typeAssert (.iface 100 x) 59 100 true).run Try.prog w = .ok (.tuple #[x, .bool true]) w := by kernel_rfl

set_option maxRecDepth 100000 in
theorem visitOther_any (t : TypeId) (x : Value) (vb nb : Nat) (w : World) (ht : t = 107 ∨ t = 76 ∨ t = 100) :
    Calls Try.prog 66 #[.iface t x, .pointer (some ⟨nb, 0, none⟩), .pointer (some ⟨vb, 0, none⟩)] w fun e w' => e = .returned (.tuple #[]) ∧ ∃ m, w' = w.drewN m := by
  have n1 := noVar_num
  have n2 := noVar_atom
  have n3 := noVar_comp
  rcases ht with rfl | rfl | rfl
  all_goals
    go_enter Try.func66, Try.ntmps66
    go_wp2_with fail
    go_region
    all_goals go_wp2_with fail
    all_goals go_end0
    all_goals exact ⟨rfl, 1, rfl⟩

theorem blk_app {wc w2 : World} {X : Obj} {row : Option Nat} (h : (wc.alloc X).grownBy w2 row) {k : Nat} (h1 : k < wc.heap.size) (h2 : some k ≠ row) : w2.heap[k]? = wc.heap[k]? :=
  (h.block k (by simp; omega) h2).trans (Below.heap_alloc wc _ k h1)
theorem VState.after {w w1 : World} {B vb nb mb : Nat} {ks ks' : List Int} {p : Option Addr} {n c : Nat} (h : VState w B vb nb mb ks p n c) (hm : NumMap w1 mb ks') (hg : w.grownBy w1 (some mb)) :
    w1.cell? ⟨vb, 0, none⟩ = some (.slice p n c) ∧ w1.frozen? ⟨vb, 0, none⟩ = false ∧ w1.cell? ⟨nb, 0, none⟩ = some (.map (some mb)) ∧ w1.ownsRow B 67 1 (.slice p n c) n (ks.map (Value.int .i64)) ∧ Below B w w1 := by
  have hne := h.map_ne
  have e1 := hg.block vb (World.block_lt_of_cell? _ _ h.vcell) (fun e => hne.1 (Option.some.inj e).symm)
  have e2 := hg.block nb (World.block_lt_of_cell? _ _ h.ncell) (fun e => hne.2.1 (Option.some.inj e).symm)
  refine ⟨(World.cell?_of_block (w := w) e1).trans h.vcell, (World.frozen?_of_block (w := w) e1).trans h.vfree, (World.cell?_of_block (w := w) e2).trans h.ncell, h.row.kept hg ?_, (Below.refl _ _).grown hg (by have := h.map.lt; have := h.bm; omega) (fun k e => by cases e; exact h.bm)⟩
  rcases h.row.2 with ⟨hv, _⟩ | ⟨g, cap, cur, hv, _⟩
  · simp only [Value.slice.injEq] at hv; rw [hv.1]; exact .inl rfl
  · simp only [Value.slice.injEq] at hv
    rw [hv.1]
    exact .inr (fun e => hne.2.2 g hv.1 (Option.some.inj e))

set_option maxRecDepth 100000 in
set_option maxHeartbeats 2000000 in
theorem visitVar_any (x : Int) (B vb nb mb : Nat) (ks : List Int) (p : Option Addr) (n c : Nat) (w : World) (h0 : 0 ≤ x) (h1 : x ≤ 1000000) (hl : ks.length ≤ 100000) (hs : VState w B vb nb mb ks p n c) :
    Calls Try.prog 66 #[.iface 67 (.int .i64 x), .pointer (some ⟨nb, 0, none⟩), .pointer (some ⟨vb, 0, none⟩)] w fun e w' => e = .returned (.tuple #[]) ∧ (∃ p' n' c', VState w' B vb nb mb (putV ks x) p' n' c') ∧ Below B w w' := by
  have HOF : Hid (∀ k, Calls Try.prog 67 #[.map (some mb), .int .i64 x] (w.drewN k) fun e w' => e = .returned (.int .i64 (ks.idxOf x)) ∧ NumMap w' mb (putV ks x) ∧ (w.drewN k).grownBy w' (some mb)) := fun k => of_any mb ks x (w.drewN k) h0 h1 (by omega) (hs.map.of_block rfl)
  have n1 := isVar
  have c1 := hs.ncell
  have c2 := hs.vcell
  have hnl := hs.len
  have HS : Hid (VState w B vb nb mb ks p n c) := hs
  obtain ⟨ix, ei⟩ : ∃ ix : Nat, ix = ks.idxOf x := ⟨_, rfl⟩
  rw [← ei] at HOF
  obtain ⟨bb, eb⟩ : ∃ bb : Bool, bb = ((ix : Int) == (n : Int)) := ⟨_, rfl⟩
  have HIX : Hid (ix = ks.idxOf x) := ei
  have hnb : n ≤ 100000 := by omega
  have HNL : Hid (n = ks.length) := hnl
  clear hs ei hnl
  go_enter Try.func66, Try.ntmps66
  go_upto_region 1 with fail
  go_cut [19] from 6 (fun b wc => b = .bool bb ∧ Hid (NumMap wc mb (putV ks x) ∧ w.grownBy wc (some mb)))
  case first =>
    go_region_with (go_at_call 67; refine (HOF.out 1).mono ?_; rintro e w1 ⟨rfl, hm1, hg1⟩; have d2 : w1.cell? ⟨vb, 0, none⟩ = some (.slice p n c) := (HS.out.drew.after hm1 hg1).1)
    all_goals go_wp2_with fail
    all_goals go_meet
    all_goals exact ⟨by rw [eb], hm1, ⟨hg1.os, hg1.tape, hg1.output, hg1.size, hg1.block⟩⟩
  case rest =>
    obtain ⟨rfl, HG⟩ := hcut
    obtain ⟨a1, a2, a3, a4, a5⟩ := HS.out.after HG.out.1 HG.out.2
    by_cases hx : x ∈ ks
    · have hbb : bb = false := by rw [eb]; have := List.idxOf_lt_length_of_mem hx; have := HIX.out; have := HNL.out; simp; omega
      subst hbb
      have hp : putV ks x = ks := by rw [putV, if_pos hx]
      have HF : Hid (∃ p' n' c', VState wc B vb nb mb (putV ks x) p' n' c') := ⟨p, n, c, by rw [hp]; exact ⟨a1, a2, a3, HNL.out, a4, by have := HG.out.1; rwa [hp] at this, HS.out.bv, HS.out.bn, HS.out.bm, HS.out.away⟩⟩
      have HB : Hid _ := a5
      clear eb hx hp a1 a2 a3 a4 a5
      go_wp2_with fail
      go_end0
      exact ⟨rfl, HF.out, HB.out⟩
    · have hbb : bb = true := by rw [eb]; have := List.idxOf_eq_length hx; have := HIX.out; have := HNL.out; simp; omega
      subst hbb
      have hp : putV ks x = ks ++ [x] := by rw [putV, if_neg hx]
      have HP : Hid _ := hp
      obtain ⟨i0, hi, hz0, hz1, hz2⟩ := info_parts infoVar
      have HR : Hid ((wc.alloc (.cells #[.int .i64 x] 67)).ownsRow B 67 1 (.slice p n c) n (ks.map (Value.int .i64))) := a4.alloc _
      have HB : Hid (Below B w wc) := a5
      have hBc : B ≤ wc.heap.size := by have := HS.out.bm; have := HS.out.map.lt; have := HG.out.2.size; omega
      have HL : Hid (∀ k, Value.ownBlock (.slice p n c) = some k → B ≤ k ∧ k ≠ vb ∧ k ≠ nb ∧ k ≠ mb ∧ k < wc.heap.size) := fun k hk => by
        have h1 := a4.lt k hk
        rcases a4.2 with ⟨hv, _⟩ | ⟨g, cap, cur, hv, _⟩
        · simp only [Value.slice.injEq] at hv; rw [hv.1] at hk; cases hk
        · simp only [Value.slice.injEq] at hv
          rw [hv.1] at hk
          have e : k = g := (Option.some.inj hk).symm
          subst e
          exact ⟨h1.1, (HS.out.away k hv.1).1, (HS.out.away k hv.1).2, HS.out.map_ne.2.2 k hv.1, h1.2⟩
      have hlv := World.block_lt_of_cell? _ _ a1
      have hln := World.block_lt_of_cell? _ _ a3
      have HA : Hid ((wc.cell? ⟨vb, 0, none⟩ = some (.slice p n c) ∧ wc.frozen? ⟨vb, 0, none⟩ = false ∧ wc.cell? ⟨nb, 0, none⟩ = some (.map (some mb)))) := ⟨a1, a2, a3⟩
      clear eb hx hp a2 a3 a4 a5
      go_wp2_with (at_builtin; refine wpList_append_lies _ rfl _ _ 65 rfl B 67 i0 (.int .i64 0) 1 8 Try.underlying65 hi hz0 hz1 hz2 rfl (by decide) (.slice p n c) n (ks.map (Value.int .i64)) rfl HR.out ⟨wc.heap.size, 0, none⟩ 1 1 [.int .i64 x] rfl rfl (cell_one_new _ _ _) (ints_oneCell .i64 [x]) (by decide) (by unfold maxLen; omega) (by omega) (by simp; omega) _ rfl ?_; intro g cap w2 hown2 hgrow2 hat2 hlt2; have bv := blk_app hgrow2 hlv (fun e => (HL.out vb e.symm).2.1 rfl); have e1 := (World.cell?_of_block (w := wc) (a := ⟨vb, 0, none⟩) bv).trans HA.out.1; have e2 := (World.frozen?_of_block (w := wc) (a := ⟨vb, 0, none⟩) bv).trans HA.out.2.1)
      go_end0
      have bn := blk_app hgrow2 hln (fun e => (HL.out nb e.symm).2.2.1 rfl)
      have bm := blk_app hgrow2 HG.out.1.lt (fun e => (HL.out mb e.symm).2.2.2.1 rfl)
      have hgn : g ≠ vb ∧ g ≠ nb ∧ g ≠ mb := by
        rcases hat2 with h | h
        · have := HL.out g h; exact ⟨this.2.1, this.2.2.1, this.2.2.2.1⟩
        · have := HG.out.1.lt
          simp at h hlv hln; omega
      have hvn := HS.out.vn
      have hmv := HS.out.map_ne.1
      refine ⟨rfl, ⟨some ⟨g, 0, none⟩, n + 1, cap, ?_⟩, ?_⟩
      · rw [HP.out]
        refine ⟨World.cell?_setCell_same _ _ _ e1, by rw [World.frozen?_setCell]; exact e2, (World.cell?_setCell_other _ _ _ _ (fun e => hvn (congrArg Addr.block e))).trans ((World.cell?_of_block (w := wc) (a := ⟨nb, 0, none⟩) bn).trans HA.out.2.2), by simp; exact HNL.out, ?_, ?_, HS.out.bv, HS.out.bn, HS.out.bm, fun k e => ?_⟩
        · rw [List.map_append]
          exact ownsRow_setCell_other hown2 (by simp [Value.ownBlock]; exact hgn.1) _
        · have := HG.out.1
          rw [HP.out] at this
          exact (this.of_block bm).of_block (Below.heap_setCell _ _ _ _ hmv)
        · have : g = k := congrArg Addr.block (Option.some.inj e)
          rw [← this]; exact ⟨hgn.1, hgn.2.1⟩
      · exact (HB.out.trans (((Below.refl _ _).alloc hBc _).grown hgrow2 (by simp; omega) (fun k e => (HL.out k e).1))).setCell (p := ⟨vb, 0, none⟩) HS.out.bv _

end Go.Proofs.Ytopdhjnpcpkmlaa
