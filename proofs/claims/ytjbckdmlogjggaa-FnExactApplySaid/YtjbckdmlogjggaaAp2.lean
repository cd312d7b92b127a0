/- sizeWith: a walk that counts. Own work of the verifier. -/
import Derived.Test.YtjbckdmlogjggaaAp1
import Derived.Deep.RegionWith
namespace Go.Proofs.Ytjbckdmlogjggaa
open Go Go.RowKit
set_option linter.unusedVariables false

/-- What the walk that counts has: the count so far, the function that is asked. -/
structure SzS (wa : World) (bs : List Bnd) (pb mb cb fb acc : Nat) (W : World) : Prop where
  cnt : W.cell? ⟨cb, 0, none⟩ = some (.int .i64 acc)
  free : W.frozen? ⟨cb, 0, none⟩ = false
  fn : W.cell? ⟨fb, 0, none⟩ = some (.func (.func 45) #[] #[.pointer (some ⟨pb, 0, none⟩)])
  ast : ASt wa bs pb mb W
  ne1 : fb ≠ cb
  ne2 : pb ≠ cb
  high : wa.heap.size ≤ cb
def SzW (w : World) (B : Nat) (wa : World) (bs : List Bnd) (pb mb cb fb acc : Nat) (e : Ending) (w' : World) : Prop := e = .returned (.tuple #[]) ∧ SzS wa bs pb mb cb fb acc w' ∧ Below B w w'
theorem SzS.set {wa : World} {bs : List Bnd} {pb mb cb fb acc : Nat} {W : World} (h : SzS wa bs pb mb cb fb acc W) (a : Nat) : SzS wa bs pb mb cb fb a (W.setCell ⟨cb, 0, none⟩ (.int .i64 a)) := by
  have hmc : mb ≠ cb := fun e => by
    obtain ⟨N, E, ⟨D, ⟨es, clock, hb, _⟩, _⟩, _⟩ := h.ast.map
    have hc := h.cnt
    rw [e] at hb
    simp [World.cell?, hb] at hc
  refine ⟨World.cell?_setCell_same' _ _ _ (by rw [h.cnt]; rfl), by rw [World.frozen?_setCell]; exact h.free, ?_, ⟨?_, ?_, ?_⟩, h.ne1, h.ne2, h.high⟩
  · rw [World.cell?_setCell_other _ _ _ _ (fun e => h.ne1 (congrArg Addr.block e).symm)]; exact h.fn
  · exact h.ast.low.setCell (p := ⟨cb, 0, none⟩) h.high _
  · rw [World.cell?_setCell_other _ _ _ _ (fun e => h.ne2 (congrArg Addr.block e).symm)]; exact h.ast.cell
  · obtain ⟨N, E, hm, he⟩ := h.ast.map
    exact ⟨N, E, hm.of_block (Below.heap_setCell _ _ _ _ hmc), he⟩

set_option maxRecDepth 100000 in
set_option maxHeartbeats 1000000 in
theorem sizeVisit_any (wa : World) (bs : List Bnd) (env : Env) (henv : EnvOf bs env) (pb mb cb fb : Nat) (c : Cel) (k : Fo) (v : Value) (Bt B acc : Nat) (w0 w : World) (hok : (Fo.node c k .nil).ok) (hBm : B ≤ cb) (hacc : acc ≤ 100000000) (hn : NodeIn w0 Bt c (fun kv => FoIn w0 Bt k kv) v) (hs : SzS wa bs pb mb cb fb acc w) :
    Calls Try.prog 73 #[v, .pointer (some ⟨cb, 0, none⟩), .pointer (some ⟨fb, 0, none⟩)] w (SzW w B wa bs pb mb cb fb (acc + sz1 bs c)) := by
  have hc0 := hs.cnt
  have hf0 := hs.free
  have hfn := hs.fn
  by_cases h0 : c.1 = 0
  · have hv : v = .iface 67 (.int .i64 c.2.1) := by
      rcases hn with ⟨_, e⟩ | ⟨e, _⟩ | ⟨e, _⟩ | ⟨e, _⟩
      · exact e
      · omega
      · omega
      · omega
    subst hv
    have hcb := hok.1
    rw [h0] at hcb
    have hx : 0 ≤ c.2.1 ∧ c.2.1 ≤ 1000000 := by simp [cellB] at hcb; exact ⟨hcb.1, hcb.2.1⟩
    have hz : sz1 bs c = szV bs c.2.1 := by rw [sz1, if_pos h0]
    have hzb := szV_bound henv c.2.1
    have hast : ASt wa bs pb mb w.drew := ⟨hs.ast.low.drew, hs.ast.cell, hs.ast.map⟩
    have HS := size1_any wa bs pb mb c.2.1 w.drew hx.1 hx.2 (fun t ht => by
      rw [henv.1, look_env] at ht
      cases hl : look env c.2.1 with
      | none => rw [hl] at ht; cases ht
      | some u => rw [hl] at ht; cases ht; exact (henv.2 _ (look_mem hl)).2) hast
    have HF : Hid (SzW w B wa bs pb mb cb fb (acc + sz1 bs c) (.returned (.tuple #[])) (w.drew.setCell ⟨cb, 0, none⟩ (.int .i64 ((acc + szV bs c.2.1 : Nat) : Int)))) := ⟨rfl, by
      rw [hz]
      exact SzS.set (⟨hs.cnt, hs.free, hs.fn, hast, hs.ne1, hs.ne2, hs.high⟩ : SzS wa bs pb mb cb fb acc w.drew) _, ((Below.refl _ _).drew).setCell (p := ⟨cb, 0, none⟩) hBm _⟩
    obtain ⟨x, ex⟩ : ∃ x, x = c.2.1 := ⟨_, rfl⟩
    obtain ⟨z, ez⟩ : ∃ z, z = szV bs c.2.1 := ⟨_, rfl⟩
    rw [← ez] at HS HF hzb
    rw [← ex] at HS ⊢
    have HWR : Hid (IntKind.i64.wrap ((acc : Int) + (z : Int)) = ((acc + z : Nat) : Int)) := by show _ = _; rw [IntKind.wrap_i64]; omega
    have a1 := isVar
    clear hs hn hok hcb hx hz ex ez h0 hast
    go_enter Try.func73, Try.ntmps73
    go_wp2_with fail
    go_region_with ((go_at_call 45; refine HS.mono ?_; rintro e w3 ⟨rfl, rfl⟩))
    all_goals go_wp2_with fail
    all_goals go_end0
    all_goals (rw [HWR.out]; exact HF.out)
  · have hz : sz1 bs c = 1 := by rw [sz1, if_neg h0]
    have hty : ∃ t y, v = .iface t y ∧ ∀ W, (Instr.typeAssert (.iface t y) 53 67 true).run Try.prog W = .ok (.tuple #[.int .i64 0, .bool false]) W := by
      rcases hn with ⟨e, _⟩ | ⟨_, e⟩ | ⟨_, e⟩ | ⟨_, b, g, vs, e, _⟩
      · exact absurd e h0
      · exact ⟨_, _, e, fun W => noVar_num W _⟩
      · exact ⟨_, _, e, fun W => noVar_atom W _⟩
      · exact ⟨_, _, e, fun W => noVar_comp W _⟩
    obtain ⟨t, y, rfl, a1⟩ := hty
    have HF : Hid (SzW w B wa bs pb mb cb fb (acc + sz1 bs c) (.returned (.tuple #[])) (w.setCell ⟨cb, 0, none⟩ (.int .i64 ((acc + 1 : Nat) : Int)))) := ⟨rfl, by rw [hz]; exact hs.set _, (Below.refl _ _).setCell (p := ⟨cb, 0, none⟩) hBm _⟩
    clear hs hn hok hz h0
    go_enter Try.func73, Try.ntmps73
    go_wp2_with fail
    go_end0
    exact HF.out

set_option maxRecDepth 100000 in
set_option maxHeartbeats 1000000 in
theorem sizeWalk_any (wa : World) (bs : List Bnd) (env : Env) (henv : EnvOf bs env) (pb mb cb fb : Nat) : ∀ (N : Nat) (c : Cel) (k : Fo) (v : Value) (Bt B acc : Nat) (w0 w : World), k.cells.length ≤ N → (Fo.node c k .nil).ok → FoIn w0 Bt (.node c k .nil) [v] → Below w0.heap.size w0 w → w0.heap.size ≤ B → B ≤ w.heap.size → B ≤ cb → SzS wa bs pb mb cb fb acc w → acc + 2000 * (1 + k.cells.length) ≤ 100000000 →
    Calls Try.prog 72 #[v, .func (.func 73) #[] #[.pointer (some ⟨cb, 0, none⟩), .pointer (some ⟨fb, 0, none⟩)]] w (SzW w B wa bs pb mb cb fb (acc + szC bs (c :: k.cells))) := by
  intro N
  induction N using Nat.strongRecOn with
  | _ N ih =>
    intro c k v Bt B acc w0 w hN hok hfo hw hB0 hB hBm hs hlen
    obtain ⟨v', vr, e, hnode, _⟩ := hfo
    obtain ⟨rfl, rfl⟩ := List.cons.inj e
    have HV := sizeVisit_any wa bs env henv pb mb cb fb c k v Bt B acc w0 w hok hBm (by omega) hnode hs
    have hz1 := szC_bound henv [c]
    simp only [szC, List.length_singleton, Nat.add_zero] at hz1
    have hsplit : acc + szC bs (c :: k.cells) = acc + sz1 bs c + szC bs k.cells := by simp only [szC]; omega
    rw [hsplit]
    have HIH : Hid _ := ih
    have HW : Hid (Below w0.heap.size w0 w) := hw
    have leaf : ∀ (t : TypeId) (x : Value), v = .iface t x → (t = 67 ∨ t = 138 ∨ t = 139) → c.1 ≠ 3 → Calls Try.prog 72 #[v, .func (.func 73) #[] #[.pointer (some ⟨cb, 0, none⟩), .pointer (some ⟨fb, 0, none⟩)]] w (SzW w B wa bs pb mb cb fb (acc + sz1 bs c + szC bs k.cells)) := fun t x hv ht h3 => by
      have hk : k = .nil := hok.2.2.2.1 h3
      subst hk hv
      have HA := fun W => argsLeaf_any t x W ht
      have hz : acc + sz1 bs c + szC bs Fo.nil.cells = acc + sz1 bs c := rfl
      rw [hz]
      clear hok hnode hs HIH ih e hw hsplit hz
      go_enter Try.func72, Try.ntmps72
      go_wp2_with fail
      refine HV.mono ?_
      rintro e w1 ⟨rfl, hst, hb⟩
      go_wp2_with fail
      refine (HA _).mono ?_
      rintro e w2 ⟨rfl, rfl⟩
      go_wp2_with fail
      refine wp_loop_rounds 1 ?_
      rw [rounds_succ]
      go_wp2_with fail
      go_end0
      exact ⟨rfl, hst, hb⟩
    rcases hnode with ⟨h0, hv⟩ | ⟨h0, hv⟩ | ⟨h0, hv⟩ | ⟨h0, b, g, vs, hv, hcomp⟩
    · exact leaf _ _ hv (.inl rfl) (by rw [h0]; decide)
    · exact leaf _ _ hv (.inr (.inl rfl)) (by rw [h0]; decide)
    · exact leaf _ _ hv (.inr (.inr rfl)) (by rw [h0]; decide)
    · subst hv
      clear leaf
      have HC : Hid (CompAt w0 Bt c.2.2 k b g vs) := hcomp
      have hvl2 : vs.length = k.count := FoIn.count _ _ hcomp.2.2.2.2.2.2
      obtain ⟨q, eq⟩ : ∃ q, q = vs.length := ⟨_, rfl⟩
      have HE : Hid (q = vs.length ∧ vs.length = k.count) := ⟨eq, hvl2⟩
      have hq : q ≤ 100000 := by have := Fo.count_le k; omega
      have HK : Hid k.ok := hok.2.2.2.2.1
      have HBB : Hid (b < w0.heap.size ∧ w0.cell? ⟨b, 1, none⟩ = some (.slice (some ⟨g, 0, none⟩) q q)) := ⟨World.block_lt_of_cell? _ _ hcomp.2.2.2.1, by rw [eq]; exact hcomp.2.2.2.1⟩
      clear hcomp hok hs ih e hw eq hvl2 hsplit
      go_enter Try.func72, Try.ntmps72
      go_wp2_with fail
      refine HV.mono ?_
      rintro e w1 ⟨rfl, hst, hb1⟩
      have d1 : w1.cell? ⟨b, 1, none⟩ = some (.slice (some ⟨g, 0, none⟩) q q) := (((HW.out.trans (hb1.mono hB0)).cell (p := ⟨b, 1, none⟩) HBB.out.1)).trans HBB.out.2
      have HST : Hid _ := hst
      have HB1 : Hid (Below B w w1) := hb1
      clear hst hb1 HV
      go_wp2_with fail
      refine (argsComp_any b g q _ d1).mono ?_
      rintro e w2 ⟨rfl, hw2⟩
      subst hw2
      clear d1
      go_wp2_with fail
      go_loopw [12] (fun i wr => ∃ (D R : Fo) (us vs2 : List Value) (j : Nat), j ≤ q ∧ i = .int .i64 j ∧ Hid (k = D.cat R ∧ vs = us ++ vs2 ∧ us.length = j) ∧ Hid (FoIn w0 Bt R vs2) ∧ Hid (SzS wa bs pb mb cb fb (acc + sz1 bs c + szC bs D.cells) wr) ∧ Hid (Below B w wr)) (fun i _ => q - (intOf i).toNat)
      case atStart => exact ⟨.nil, k, [], vs, 0, Nat.zero_le _, rfl, ⟨rfl, rfl, rfl⟩, HC.out.2.2.2.2.2.2, HST, HB1⟩
      case round =>
        obtain ⟨D, R, us, vs2, j, hj, rfl, HF, HR, HS, HB⟩ := hrel
        by_cases hlt : j < q
        · obtain ⟨c', k', r', rfl⟩ : ∃ c' k' r', R = .node c' k' r' := by
            cases R with
            | nil =>
              have h1 := HF.out
              have h2 : vs2 = [] := HR.out
              have h3 := HE.out.1
              rw [h1.2.1, h2, List.append_nil] at h3
              omega
            | node c' k' r' => exact ⟨c', k', r', rfl⟩
          obtain ⟨v, vr, rfl, hnode, hrest⟩ := HR.out
          have hok2 := (Fo.ok_cat D (.node c' k' r')).1 (HF.out.1 ▸ HK.out)
          have hl2 : D.cells.length + (k'.cells.length + r'.cells.length + 1) = k.cells.length := by
            rw [HF.out.1, Fo.cells_cat]; simp [Fo.cells]
          have hat : w0.cell? ⟨g, j, none⟩ = some v := by
            rw [HC.out.2.2.2.2.2.1 j (by rw [← HE.out.1]; exact hlt), HF.out.2.1]
            simp [List.getD, HF.out.2.2]
          have hwr : Below w0.heap.size w0 wr := HW.out.trans (HB.out.mono hB0)
          have c5 : wr.cell? ⟨g, j, none⟩ = some v := (hwr.cell (World.block_lt_of_cell? _ _ hat)).trans hat
          have hB4 : B ≤ wr.heap.size := Nat.le_trans hB HB.out.size
          have HWK := HIH.out k'.cells.length (by omega) c' k' v Bt B (acc + sz1 bs c + szC bs D.cells) w0 wr (Nat.le_refl _) ⟨hok2.2.1, hok2.2.2.1, hok2.2.2.2.1, hok2.2.2.2.2.1, hok2.2.2.2.2.2.1, trivial⟩ ⟨v, [], rfl, hnode, rfl⟩ hwr hB0 hB4 hBm HS.out (by have := szC_bound henv D.cells; omega)
          obtain ⟨vt, vx, rfl⟩ := hnode.iface
          have HRR : Hid (FoIn w0 Bt r' vr) := hrest
          clear hok2 hl2 hat hwr hnode hrest HIH
          go_wp2_with fail
          refine HWK.mono ?_
          rintro e w3 ⟨rfl, hst3, hb3⟩
          have HN : Hid (k = (D.cat (.node c' k' .nil)).cat r' ∧ vs = (us ++ [.iface vt vx]) ++ vr ∧ (us ++ [Value.iface vt vx]).length = j + 1) := ⟨by rw [Fo.cat_assoc]; exact HF.out.1, by rw [HF.out.2.1]; simp, by simp [HF.out.2.2]⟩
          have HST3 : Hid (SzS wa bs pb mb cb fb (acc + sz1 bs c + szC bs (D.cat (.node c' k' .nil)).cells) w3) := by
            have e : acc + sz1 bs c + szC bs (D.cat (.node c' k' .nil)).cells = acc + sz1 bs c + szC bs D.cells + szC bs (c' :: k'.cells) := by rw [Fo.cells_cat, szC_append]; simp [Fo.cells]; omega
            show SzS _ _ _ _ _ _ _ _
            rw [e]; exact hst3
          have HB3 : Hid (Below B w w3) := HB.out.trans hb3
          clear hst3 hb3 HWK
          go_wp2_with fail
          go_roundw
          case rel => exact ⟨D.cat (.node c' k' .nil), r', us ++ [.iface vt vx], vr, j + 1, by omega, by go_num, HN, HRR, HST3, HB3⟩
          case measure => simp [intOf]; omega
        · obtain rfl : j = q := by omega
          obtain rfl : R = .nil := by
            have h1 := FoIn.count _ _ HR.out
            have h2 := HE.out
            rw [HF.out.2.1, List.length_append] at h2
            have h3 := HF.out.2.2
            cases R with
            | nil => rfl
            | node a b d => simp [Fo.count] at h1; omega
          have HF' : Hid (D = k) := by have := HF.out.1; rw [Fo.cat_nil] at this; exact this.symm
          go_wp2_with fail
          go_end0
          refine ⟨rfl, ?_, HB.out⟩
          have h1 := HS.out
          rwa [HF'.out] at h1


end Go.Proofs.Ytjbckdmlogjggaa
