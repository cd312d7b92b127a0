/- Texts of Ap2, Ap3, BD2. Own work of the verifier. -/
import Derived.Test.YtglebnelmnnboaaUqas
import Derived.Deep.RegionWith
import Derived.Test.YtglebnelmnnboaaUqae
namespace Go.Proofs.Ytglebnelmnnboaa
open Go Go.RowKit
set_option linter.unusedVariables false

/-- What the walk that counts has: the count so far, the function that is asked. -/
structure SzS (wa : World) (bs : List Bnd) (pb mb cb fb acc : Nat) (W : World) : Prop where
  cnt : W.cell? ⟨cb, 0, none⟩ = some (.int .i64 acc)
  free : W.frozen? ⟨cb, 0, none⟩ = false
  fn : W.cell? ⟨fb, 0, none⟩ = some (.func (.func 45) #[] #[.pointer (some ⟨pb, 0, none⟩)])
  ast : ASt wa bs pb mb W
  ne1 : fb ≠ cb
  ne2 : pb ≠ cb
  high : wa.heap.size ≤ cb
def SzW (w : World) (B : Nat) (wa : World) (bs : List Bnd) (pb mb cb fb acc : Nat) (e : Ending) (w' : World) : Prop := e = .returned (.tuple #[]) ∧ SzS wa bs pb mb cb fb acc w' ∧ Below B w w'
theorem SzS.set {wa : World} {bs : List Bnd} {pb mb cb fb acc : Nat} {W : World} (h : SzS wa bs pb mb cb fb acc W) (a : Nat) : SzS wa bs pb mb cb fb a (W.setCell ⟨cb, 0, none⟩ (.int .i64 a)) := by
  have hmc : mb ≠ cb := fun e => by
    obtain ⟨N, E, ⟨D, ⟨es, clock, hb, _⟩, _⟩, _⟩ := h.ast.map
    have hc := h.cnt
    rw [e] at hb
    simp [World.cell?, hb] at hc
  refine ⟨World.cell?_setCell_same' _ _ _ (by rw [h.cnt]; rfl), by rw [World.frozen?_setCell]; exact h.free, ?_, ⟨?_, ?_, ?_⟩, h.ne1, h.ne2, h.high⟩
  · rw [World.cell?_setCell_other _ _ _ _ (fun e => h.ne1 (congrArg Addr.block e).symm)]; exact h.fn
  · exact h.ast.low.setCell (p := ⟨cb, 0, none⟩) h.high _
  · rw [World.cell?_setCell_other _ _ _ _ (fun e => h.ne2 (congrArg Addr.block e).symm)]; exact h.ast.cell
  · obtain ⟨N, E, hm, he⟩ := h.ast.map
    exact ⟨N, E, hm.of_block (Below.heap_setCell _ _ _ _ hmc), he⟩

set_option maxRecDepth 100000 in
set_option maxHeartbeats 1000000 in
theorem sizeVisit_any (wa : World) (bs : List Bnd) (env : Env) (henv : EnvOf bs env) (pb mb cb fb : Nat) (c : Cel) (k : Fo) (v : Value) (Bt B acc : Nat) (w0 w : World) (hok : (Fo.node c k .nil).ok) (hBm : B ≤ cb) (hacc : acc ≤ 100000000) (hn : NodeIn w0 Bt c (fun kv => FoIn w0 Bt k kv) v) (hs : SzS wa bs pb mb cb fb acc w) :
    Calls Try.prog 73 #[v, .pointer (some ⟨cb, 0, none⟩), .pointer (some ⟨fb, 0, none⟩)] w (SzW w B wa bs pb mb cb fb (acc + sz1 bs c)) := by
  have hc0 := hs.cnt
  have hf0 := hs.free
  have hfn := hs.fn
  by_cases h0 : c.1 = 0
  · have hv : v = .iface 67 (.int .i64 c.2.1) := by
      rcases hn with ⟨_, e⟩ | ⟨e, _⟩ | ⟨e, _⟩ | ⟨e, _⟩
      · exact e
      · omega
      · omega
      · omega
    subst hv
    have hcb := hok.1
    rw [h0] at hcb
    have hx : 0 ≤ c.2.1 ∧ c.2.1 ≤ 1000000 := by simp [cellB] at hcb; exact ⟨hcb.1, hcb.2.1⟩
    have hz : sz1 bs c = szV bs c.2.1 := by rw [sz1, if_pos h0]
    have hzb := szV_bound henv c.2.1
    have hast : ASt wa bs pb mb w.drew := ⟨hs.ast.low.drew, hs.ast.cell, hs.ast.map⟩
    have HS := size1_any wa bs pb mb c.2.1 w.drew hx.1 hx.2 (fun t ht => by
      rw [henv.1, look_env] at ht
      cases hl : look env c.2.1 with
      | none => rw [hl] at ht; cases ht
      | some u => rw [hl] at ht; cases ht; exact (henv.2 _ (look_mem hl)).2) hast
    have HF : Hid (SzW w B wa bs pb mb cb fb (acc + sz1 bs c) (.returned (.tuple #[])) (w.drew.setCell ⟨cb, 0, none⟩ (.int .i64 ((acc + szV bs c.2.1 : Nat) : Int)))) := ⟨rfl, by
      rw [hz]
      exact SzS.set (⟨hs.cnt, hs.free, hs.fn, hast, hs.ne1, hs.ne2, hs.high⟩ : SzS wa bs pb mb cb fb acc w.drew) _, ((Below.refl _ _).drew).setCell (p := ⟨cb, 0, none⟩) hBm _⟩
    obtain ⟨x, ex⟩ : ∃ x, x = c.2.1 := ⟨_, rfl⟩
    obtain ⟨z, ez⟩ : ∃ z, z = szV bs c.2.1 := ⟨_, rfl⟩
    rw [← ez] at HS HF hzb
    rw [← ex] at HS ⊢
    have HWR : Hid (IntKind.i64.wrap ((acc : Int) + (z : Int)) = ((acc + z : Nat) : Int)) := by show _ = _; rw [IntKind.wrap_i64]; omega
    have a1 := isVar
    clear hs hn hok hcb hx hz ex ez h0 hast
    go_enter Try.func73, Try.ntmps73
    go_wp2_with fail
    go_region_with ((go_at_call 45; refine HS.mono ?_; rintro e w3 ⟨rfl, rfl⟩))
    all_goals go_wp2_with fail
    all_goals go_end0
    all_goals (rw [HWR.out]; exact HF.out)
  · have hz : sz1 bs c = 1 := by rw [sz1, if_neg h0]
    have hty : ∃ t y, v = .iface t y ∧ ∀ W, (Instr.typeAssert (.iface t y) 53 67 true).run Try.prog W = .ok (.tuple #[.int .i64 0, .bool false]) W := by
      rcases hn with ⟨e, _⟩ | ⟨_, e⟩ | ⟨_, e⟩ | ⟨_, b, g, vs, e, _⟩
      · exact absurd e h0
      · exact ⟨_, _, e, fun W => noVar_num W _⟩
      · exact ⟨_, _, e, fun W => noVar_atom W _⟩
      · exact ⟨_, _, e, fun W => noVar_comp W _⟩
    obtain ⟨t, y, rfl, a1⟩ := hty
    have HF : Hid (SzW w B wa bs pb mb cb fb (acc + sz1 bs c) (.returned (.tuple #[])) (w.setCell ⟨cb, 0, none⟩ (.int .i64 ((acc + 1 : Nat) : Int)))) := ⟨rfl, by rw [hz]; exact hs.set _, (Below.refl _ _).setCell (p := ⟨cb, 0, none⟩) hBm _⟩
    clear hs hn hok hz h0
    go_enter Try.func73, Try.ntmps73
    go_wp2_with fail
    go_end0
    exact HF.out

set_option maxRecDepth 100000 in
set_option maxHeartbeats 1000000 in
theorem sizeWalk_any (wa : World) (bs : List Bnd) (env : Env) (henv : EnvOf bs env) (pb mb cb fb : Nat) : ∀ (N : Nat) (c : Cel) (k : Fo) (v : Value) (Bt B acc : Nat) (w0 w : World), k.cells.length ≤ N → (Fo.node c k .nil).ok → FoIn w0 Bt (.node c k .nil) [v] → Below w0.heap.size w0 w → w0.heap.size ≤ B → B ≤ w.heap.size → B ≤ cb → SzS wa bs pb mb cb fb acc w → acc + 2000 * (1 + k.cells.length) ≤ 100000000 →
    Calls Try.prog 72 #[v, .func (.func 73) #[] #[.pointer (some ⟨cb, 0, none⟩), .pointer (some ⟨fb, 0, none⟩)]] w (SzW w B wa bs pb mb cb fb (acc + szC bs (c :: k.cells))) := by
  intro N
  induction N using Nat.strongRecOn with
  | _ N ih =>
    intro c k v Bt B acc w0 w hN hok hfo hw hB0 hB hBm hs hlen
    obtain ⟨v', vr, e, hnode, _⟩ := hfo
    obtain ⟨rfl, rfl⟩ := List.cons.inj e
    have HV := sizeVisit_any wa bs env henv pb mb cb fb c k v Bt B acc w0 w hok hBm (by omega) hnode hs
    have hz1 := szC_bound henv [c]
    simp only [szC, List.length_singleton, Nat.add_zero] at hz1
    have hsplit : acc + szC bs (c :: k.cells) = acc + sz1 bs c + szC bs k.cells := by simp only [szC]; omega
    rw [hsplit]
    have HIH : Hid _ := ih
    have HW : Hid (Below w0.heap.size w0 w) := hw
    have leaf : ∀ (t : TypeId) (x : Value), v = .iface t x → (t = 67 ∨ t = 138 ∨ t = 139) → c.1 ≠ 3 → Calls Try.prog 72 #[v, .func (.func 73) #[] #[.pointer (some ⟨cb, 0, none⟩), .pointer (some ⟨fb, 0, none⟩)]] w (SzW w B wa bs pb mb cb fb (acc + sz1 bs c + szC bs k.cells)) := fun t x hv ht h3 => by
      have hk : k = .nil := hok.2.2.2.1 h3
      subst hk hv
      have HA := fun W => argsLeaf_any t x W ht
      have hz : acc + sz1 bs c + szC bs Fo.nil.cells = acc + sz1 bs c := rfl
      rw [hz]
      clear hok hnode hs HIH ih e hw hsplit hz
      go_enter Try.func72, Try.ntmps72
      go_wp2_with fail
      refine HV.mono ?_
      rintro e w1 ⟨rfl, hst, hb⟩
      go_wp2_with fail
      refine (HA _).mono ?_
      rintro e w2 ⟨rfl, rfl⟩
      go_wp2_with fail
      refine wp_loop_rounds 1 ?_
      rw [rounds_succ]
      go_wp2_with fail
      go_end0
      exact ⟨rfl, hst, hb⟩
    rcases hnode with ⟨h0, hv⟩ | ⟨h0, hv⟩ | ⟨h0, hv⟩ | ⟨h0, b, g, vs, hv, hcomp⟩
    · exact leaf _ _ hv (.inl rfl) (by rw [h0]; decide)
    · exact leaf _ _ hv (.inr (.inl rfl)) (by rw [h0]; decide)
    · exact leaf _ _ hv (.inr (.inr rfl)) (by rw [h0]; decide)
    · subst hv
      clear leaf
      have HC : Hid (CompAt w0 Bt c.2.2 k b g vs) := hcomp
      have hvl2 : vs.length = k.count := FoIn.count _ _ hcomp.2.2.2.2.2.2
      obtain ⟨q, eq⟩ : ∃ q, q = vs.length := ⟨_, rfl⟩
      have HE : Hid (q = vs.length ∧ vs.length = k.count) := ⟨eq, hvl2⟩
      have hq : q ≤ 100000 := by have := Fo.count_le k; omega
      have HK : Hid k.ok := hok.2.2.2.2.1
      have HBB : Hid (b < w0.heap.size ∧ w0.cell? ⟨b, 1, none⟩ = some (.slice (some ⟨g, 0, none⟩) q q)) := ⟨World.block_lt_of_cell? _ _ hcomp.2.2.2.1, by rw [eq]; exact hcomp.2.2.2.1⟩
      clear hcomp hok hs ih e hw eq hvl2 hsplit
      go_enter Try.func72, Try.ntmps72
      go_wp2_with fail
      refine HV.mono ?_
      rintro e w1 ⟨rfl, hst, hb1⟩
      have d1 : w1.cell? ⟨b, 1, none⟩ = some (.slice (some ⟨g, 0, none⟩) q q) := (((HW.out.trans (hb1.mono hB0)).cell (p := ⟨b, 1, none⟩) HBB.out.1)).trans HBB.out.2
      have HST : Hid _ := hst
      have HB1 : Hid (Below B w w1) := hb1
      clear hst hb1 HV
      go_wp2_with fail
      refine (argsComp_any b g q _ d1).mono ?_
      rintro e w2 ⟨rfl, hw2⟩
      subst hw2
      clear d1
      go_wp2_with fail
      go_loopw [12] (fun i wr => ∃ (D R : Fo) (us vs2 : List Value) (j : Nat), j ≤ q ∧ i = .int .i64 j ∧ Hid (k = D.cat R ∧ vs = us ++ vs2 ∧ us.length = j) ∧ Hid (FoIn w0 Bt R vs2) ∧ Hid (SzS wa bs pb mb cb fb (acc + sz1 bs c + szC bs D.cells) wr) ∧ Hid (Below B w wr)) (fun i _ => q - (intOf i).toNat)
      case atStart => exact ⟨.nil, k, [], vs, 0, Nat.zero_le _, rfl, ⟨rfl, rfl, rfl⟩, HC.out.2.2.2.2.2.2, HST, HB1⟩
      case round =>
        obtain ⟨D, R, us, vs2, j, hj, rfl, HF, HR, HS, HB⟩ := hrel
        by_cases hlt : j < q
        · obtain ⟨c', k', r', rfl⟩ : ∃ c' k' r', R = .node c' k' r' := by
            cases R with
            | nil =>
              have h1 := HF.out
              have h2 : vs2 = [] := HR.out
              have h3 := HE.out.1
              rw [h1.2.1, h2, List.append_nil] at h3
              omega
            | node c' k' r' => exact ⟨c', k', r', rfl⟩
          obtain ⟨v, vr, rfl, hnode, hrest⟩ := HR.out
          have hok2 := (Fo.ok_cat D (.node c' k' r')).1 (HF.out.1 ▸ HK.out)
          have hl2 : D.cells.length + (k'.cells.length + r'.cells.length + 1) = k.cells.length := by
            rw [HF.out.1, Fo.cells_cat]; simp [Fo.cells]
          have hat : w0.cell? ⟨g, j, none⟩ = some v := by
            rw [HC.out.2.2.2.2.2.1 j (by rw [← HE.out.1]; exact hlt), HF.out.2.1]
            simp [List.getD, HF.out.2.2]
          have hwr : Below w0.heap.size w0 wr := HW.out.trans (HB.out.mono hB0)
          have c5 : wr.cell? ⟨g, j, none⟩ = some v := (hwr.cell (World.block_lt_of_cell? _ _ hat)).trans hat
          have hB4 : B ≤ wr.heap.size := Nat.le_trans hB HB.out.size
          have HWK := HIH.out k'.cells.length (by omega) c' k' v Bt B (acc + sz1 bs c + szC bs D.cells) w0 wr (Nat.le_refl _) ⟨hok2.2.1, hok2.2.2.1, hok2.2.2.2.1, hok2.2.2.2.2.1, hok2.2.2.2.2.2.1, trivial⟩ ⟨v, [], rfl, hnode, rfl⟩ hwr hB0 hB4 hBm HS.out (by have := szC_bound henv D.cells; omega)
          obtain ⟨vt, vx, rfl⟩ := hnode.iface
          have HRR : Hid (FoIn w0 Bt r' vr) := hrest
          clear hok2 hl2 hat hwr hnode hrest HIH
          go_wp2_with fail
          refine HWK.mono ?_
          rintro e w3 ⟨rfl, hst3, hb3⟩
          have HN : Hid (k = (D.cat (.node c' k' .nil)).cat r' ∧ vs = (us ++ [.iface vt vx]) ++ vr ∧ (us ++ [Value.iface vt vx]).length = j + 1) := ⟨by rw [Fo.cat_assoc]; exact HF.out.1, by rw [HF.out.2.1]; simp, by simp [HF.out.2.2]⟩
          have HST3 : Hid (SzS wa bs pb mb cb fb (acc + sz1 bs c + szC bs (D.cat (.node c' k' .nil)).cells) w3) := by
            have e : acc + sz1 bs c + szC bs (D.cat (.node c' k' .nil)).cells = acc + sz1 bs c + szC bs D.cells + szC bs (c' :: k'.cells) := by rw [Fo.cells_cat, szC_append]; simp [Fo.cells]; omega
            show SzS _ _ _ _ _ _ _ _
            rw [e]; exact hst3
          have HB3 : Hid (Below B w w3) := HB.out.trans hb3
          clear hst3 hb3 HWK
          go_wp2_with fail
          go_roundw
          case rel => exact ⟨D.cat (.node c' k' .nil), r', us ++ [.iface vt vx], vr, j + 1, by omega, by go_num, HN, HRR, HST3, HB3⟩
          case measure => simp [intOf]; omega
        · obtain rfl : j = q := by omega
          obtain rfl : R = .nil := by
            have h1 := FoIn.count _ _ HR.out
            have h2 := HE.out
            rw [HF.out.2.1, List.length_append] at h2
            have h3 := HF.out.2.2
            cases R with
            | nil => rfl
            | node a b d => simp [Fo.count] at h1; omega
          have HF' : Hid (D = k) := by have := HF.out.1; rw [Fo.cat_nil] at this; exact this.symm
          go_wp2_with fail
          go_end0
          refine ⟨rfl, ?_, HB.out⟩
          have h1 := HS.out
          rwa [HF'.out] at h1


end Go.Proofs.Ytglebnelmnnboaa

namespace Go.Proofs.Ytglebnelmnnboaa
open Go Go.RowKit
set_option linter.unusedVariables false

set_option maxRecDepth 100000 in
theorem sizeWith_any (wa : World) (bs : List Bnd) (env : Env) (henv : EnvOf bs env) (pb mb : Nat) (c : Cel) (k : Fo) (v : Value) (Bt : Nat) (w : World) (hok : (Fo.node c k .nil).ok) (hfo : FoIn w Bt (.node c k .nil) [v]) (hk : k.cells.length ≤ 2000) (hs : ASt wa bs pb mb w) :
    Calls Try.prog 44 #[v, .func (.func 45) #[] #[.pointer (some ⟨pb, 0, none⟩)]] w fun e w' => e = .returned (.int .i64 ((min (szC bs (c :: k.cells)) 2001 : Nat) : Int)) ∧ Below w.heap.size w w' := by
  have HBX : Hid (Below w.heap.size w ((w.alloc (.cells #[.func (.func 45) #[] #[.pointer (some ⟨pb, 0, none⟩)]] 69)).alloc (.cells #[.int .i64 0] 3))) := ((Below.refl _ _).alloc (Nat.le_refl _) _).alloc (by simp) _
  have hpb : pb < w.heap.size := World.block_lt_of_cell? _ _ hs.cell
  have k0 : ((w.alloc (.cells #[.func (.func 45) #[] #[.pointer (some ⟨pb, 0, none⟩)]] 69)).alloc (.cells #[.int .i64 0] 3)).heap[w.heap.size]? = some (.cells #[.func (.func 45) #[] #[.pointer (some ⟨pb, 0, none⟩)]] 69) := (Below.heap_alloc _ _ _ (by simp)).trans (heap_alloc_new _ _)
  have k1 : ((w.alloc (.cells #[.func (.func 45) #[] #[.pointer (some ⟨pb, 0, none⟩)]] 69)).alloc (.cells #[.int .i64 0] 3)).heap[w.heap.size + 1]? = some (.cells #[.int .i64 0] 3) := by
    have := heap_alloc_new (w.alloc (.cells #[.func (.func 45) #[] #[.pointer (some ⟨pb, 0, none⟩)]] 69)) (.cells #[.int .i64 0] 3)
    rwa [World.size_alloc] at this
  have HS : Hid (SzS wa bs pb mb (w.heap.size + 1) w.heap.size 0 ((w.alloc (.cells #[.func (.func 45) #[] #[.pointer (some ⟨pb, 0, none⟩)]] 69)).alloc (.cells #[.int .i64 0] 3))) :=
    ⟨cell_of_row _ _ 0 _ _ _ k1, frozen_of_row _ _ 0 _ _ k1, cell_of_row _ _ 0 _ _ _ k0, hs.below HBX.out, by omega, by omega, by have := hs.low.size; omega⟩
  have HW := sizeWalk_any wa bs env henv pb mb (w.heap.size + 1) w.heap.size k.cells.length c k v Bt (w.heap.size + 1) 0 w _ (Nat.le_refl _) hok hfo HBX.out (by omega) (by simp) (Nat.le_refl _) HS.out (by omega)
  have hsb := szC_bound henv (c :: k.cells)
  obtain ⟨t, y, rfl⟩ := hfo.iface
  rw [Nat.zero_add] at HW
  obtain ⟨z, ez⟩ : ∃ z, z = szC bs (c :: k.cells) := ⟨_, rfl⟩
  rw [← ez] at HW hsb ⊢
  have hzb : z ≤ 100000000 := by simp at hsb; omega
  clear hok hfo hs k0 k1 HS hsb ez
  go_enter Try.func44, Try.ntmps44
  go_wp2_with fail
  refine HW.mono ?_
  rintro e w2 ⟨rfl, hst, hb⟩
  have hc := hst.cnt
  have HB2 : Hid (Below w.heap.size w w2) := HBX.out.trans (hb.mono (by omega))
  clear hst hb HW
  go_wp2_with fail
  all_goals (go_ret; exact ⟨ret_int (by omega), HB2.out⟩)

/-- What replaceVars answers. -/
def SubOut (w : World) (env : Env) (c : Cel) (k : Fo) (e : Ending) (w' : World) : Prop :=
  ∃ v, e = .returned v ∧ FoIn w' w.heap.size ((Fo.node c k .nil).subst env) [v] ∧ Below w.heap.size w w'
set_option maxRecDepth 100000 in
theorem put2_any (w0 : World) (bs : List Bnd) (env : Env) (henv : EnvOf bs env) (pb mb : Nat) (c : Cel) (w : World) (hc : c.1 = 0) (h0 : 0 ≤ c.2.1) (h1 : c.2.1 ≤ 1000000) (hs : ASt w0 bs pb mb w) :
    Calls Try.prog 48 #[.int .i64 c.2.1, .pointer (some ⟨pb, 0, none⟩)] w (SubOut w env c .nil) := by
  obtain ⟨N, E, hm, he⟩ := hs.map
  have hcell := hs.cell
  have hl := hm.look (t := 66) Try.underlying66 (zeroCells w) c.2.1 h0 h1
  have hk := BE.look _ _ he c.2.1
  have hlk : look bs c.2.1 = (look env c.2.1).map (fun t => t.1 :: t.2.cells) := by rw [henv.1, look_env]
  cases hx : look env c.2.1 with
  | none =>
    rw [hx] at hlk
    rw [hk.2 hlk] at hl
    simp only [Option.isSome_none] at hl
    have HF : Hid (SubOut w env c .nil (.returned (.iface 67 (.int .i64 c.2.1))) w) := ⟨_, rfl, by simp only [Fo.subst, if_pos hc, hx]; exact ⟨_, [], rfl, .inl ⟨hc, rfl⟩, rfl⟩, Below.refl _ _⟩
    obtain ⟨x, ex⟩ : ∃ x, x = c.2.1 := ⟨_, rfl⟩
    rw [← ex] at hl HF ⊢
    clear hk hx hlk hs hm he ex
    go_enter Try.func48, Try.ntmps48
    go_wp2
    go_ret
    exact HF.out
  | some t =>
    rw [hx] at hlk
    obtain ⟨q, hq, hin⟩ := hk.1 _ hlk
    rw [hq] at hl
    simp only [Option.isSome_some] at hl
    have ht : t.ok ∧ (t.1 :: t.2.cells).length ≤ 2000 := henv.2 _ (look_mem hx)
    have HT := termOf_any t.1 t.2 q (t.1 :: t.2.cells).length (t.1 :: t.2.cells).length w ht.1 (by simp) (Nat.le_refl _) (by have := ht.2; omega) (hin.below hs.low)
    have HF : Hid (∀ v w', FoIn w' w.heap.size (.node t.1 t.2 .nil) [v] → Below w.heap.size w w' → SubOut w env c .nil (.returned v) w') := fun v w' h1 h2 => ⟨v, rfl, by simp only [Fo.subst, if_pos hc, hx]; exact h1, h2⟩
    obtain ⟨x, ex⟩ : ∃ x, x = c.2.1 := ⟨_, rfl⟩
    obtain ⟨m, em⟩ : ∃ m, m = (t.1 :: t.2.cells).length := ⟨_, rfl⟩
    rw [← em] at hl HT
    rw [← ex] at hl ⊢
    clear hk hx hlk hs hm he ex em ht hq hin
    go_enter Try.func48, Try.ntmps48
    go_wp2_with fail
    refine HT.mono ?_
    rintro e w1 ⟨v, rfl, hf1, hb1⟩
    have HF1 : Hid _ := HF.out v w1 hf1 hb1
    obtain ⟨tv, xv, rfl⟩ := hf1.iface
    clear hf1 hb1 HT
    go_wp2_with fail
    go_ret
    exact HF1.out

set_option maxRecDepth 100000 in
set_option maxHeartbeats 1000000 in
theorem replaceS_any (wa : World) (bs : List Bnd) (env : Env) (henv : EnvOf bs env) (pb mb : Nat) : ∀ (N : Nat) (c : Cel) (k : Fo) (v : Value) (Bt : Nat) (w0 w : World), k.cells.length ≤ N → (Fo.node c k .nil).ok → FoIn w0 Bt (.node c k .nil) [v] → Below w0.heap.size w0 w → ASt wa bs pb mb w → k.cells.length ≤ 100000 →
    Calls Try.prog 47 #[v, .func (.func 48) #[] #[.pointer (some ⟨pb, 0, none⟩)]] w (SubOut w env c k) := by
  intro N
  induction N using Nat.strongRecOn with
  | _ N ih =>
    intro c k v Bt w0 w hN hok hfo hw hs hlen
    obtain ⟨v', vr, e, hnode, _⟩ := hfo
    obtain ⟨rfl, rfl⟩ := List.cons.inj e
    rcases hnode with ⟨h0, rfl⟩ | ⟨h0, rfl⟩ | ⟨h0, rfl⟩ | ⟨h0, b, g, vs, rfl, hcomp⟩
    · have hk : k = .nil := hok.2.2.2.1 (by rw [h0]; decide)
      subst hk
      have hx : 0 ≤ c.2.1 ∧ c.2.1 ≤ 1000000 := by have := hok.1; rw [h0] at this; simp [cellB] at this; omega
      have HW := put2_any wa bs env henv pb mb c w h0 hx.1 hx.2 hs
      obtain ⟨x, ex⟩ : ∃ x, x = c.2.1 := ⟨_, rfl⟩
      rw [← ex] at HW ⊢
      have n1 := isVar
      clear ih hok hw hs hx ex e hlen
      go_enter Try.func47, Try.ntmps47
      go_wp2_with fail
      refine HW.mono ?_
      rintro e w1 ⟨v1, rfl, h1, h2⟩
      have HF : Hid (SubOut w env c .nil (.returned v1) w1) := ⟨v1, rfl, h1, h2⟩
      have hif : ∃ t y, v1 = .iface t y := by
        simp only [Fo.subst, if_pos h0] at h1
        split at h1
        · exact FoIn.iface h1
        · exact FoIn.iface h1
      obtain ⟨t1, y1, rfl⟩ := hif
      clear h1 h2 HW
      go_wp2_with fail
      go_ret
      exact HF.out
    · have hk : k = .nil := hok.2.2.2.1 (by rw [h0]; decide)
      subst hk
      have n1 := noVar_num
      have n2 := noComp_num
      have HF : Hid (SubOut w env c .nil (.returned (.iface 138 (.int .i64 c.2.1))) w) := ⟨_, rfl, by simp only [Fo.subst, if_neg (show ¬ c.1 = 0 by omega)]; exact ⟨_, [], rfl, .inr (.inl ⟨h0, rfl⟩), rfl⟩, Below.refl _ _⟩
      obtain ⟨x, ex⟩ : ∃ x, x = Value.int .i64 c.2.1 := ⟨_, rfl⟩
      rw [← ex] at HF ⊢
      clear ih hok hw hs ex e hlen
      go_enter Try.func47, Try.ntmps47
      go_wp2_with fail
      go_ret
      exact HF.out
    · have hk : k = .nil := hok.2.2.2.1 (by rw [h0]; decide)
      subst hk
      have n1 := noVar_atom
      have n2 := noComp_atom
      have HF : Hid (SubOut w env c .nil (.returned (.iface 139 (.string (strOfNums c.2.2)))) w) := ⟨_, rfl, by simp only [Fo.subst, if_neg (show ¬ c.1 = 0 by omega)]; exact ⟨_, [], rfl, .inr (.inr (.inl ⟨h0, rfl⟩)), rfl⟩, Below.refl _ _⟩
      obtain ⟨x, ex⟩ : ∃ x, x = Value.string (strOfNums c.2.2) := ⟨_, rfl⟩
      rw [← ex] at HF ⊢
      clear ih hok hw hs ex e hlen
      go_enter Try.func47, Try.ntmps47
      go_wp2_with fail
      go_ret
      exact HF.out
    · have n1 := noVar_comp
      have n2 := isComp
      have HC : Hid (CompAt w0 Bt c.2.2 k b g vs) := hcomp
      have hvl2 : vs.length = k.count := FoIn.count _ _ hcomp.2.2.2.2.2.2
      obtain ⟨q, eq⟩ : ∃ q, q = vs.length := ⟨_, rfl⟩
      have HE : Hid (q = vs.length ∧ vs.length = k.count) := ⟨eq, hvl2⟩
      have hq : q ≤ 100000 := by have := Fo.count_le k; omega
      have HK : Hid k.ok := hok.2.2.2.2.1
      have d0 := (hw.cell (World.block_lt_of_cell? _ _ hcomp.2.2.1)).trans hcomp.2.2.1
      have d1 := (hw.cell (World.block_lt_of_cell? _ _ hcomp.2.2.2.1)).trans hcomp.2.2.2.1
      rw [← eq] at d1
      have HBB : Hid (b < w0.heap.size) := World.block_lt_of_cell? _ _ hcomp.2.2.1
      have HS : Hid (ASt wa bs pb mb w) := hs
      have HW : Hid (Below w0.heap.size w0 w) := hw
      have HIH : Hid _ := ih
      have H0 : Hid (c.1 = 3) := h0
      obtain ⟨str, es⟩ : ∃ str, str = strOfNums c.2.2 := ⟨_, rfl⟩
      rw [← es] at d0
      have HES : Hid (str = strOfNums c.2.2) := es
      obtain ⟨i0, hi, hz0, hz1, hz2⟩ := info_parts infoTerm
      have hmx : q ≤ maxLen := by unfold maxLen; omega
      clear ih hok hw hs e hcomp eq hvl2 es h0
      go_enter Try.func47, Try.ntmps47
      go_wp2_with (at_make; refine wpList_make_full _ rfl _ _ 109 rfl w.heap.size 53 i0 .nilIface 1 Try.underlying109 hi hz0 hz1 _ _ _ _ q rfl rfl rfl rfl (by rw [hz2]; omega) hmx (Nat.le_refl _) ?_; intro w1 hown hgrow; have d0' := ((World.cell?_of_block (w := w) (a := ⟨b, 0, none⟩) (hgrow.block b (World.block_lt_of_cell? _ _ d0) (fun h => by cases h)))).trans d0; have d1' := ((World.cell?_of_block (w := w) (a := ⟨b, 1, none⟩) (hgrow.block b (World.block_lt_of_cell? _ _ d1) (fun h => by cases h)))).trans d1)
      have HO1 : Hid (w1.ownsRow w.heap.size 53 1 (.slice (some ⟨w.heap.size, 0, none⟩) q q) q ([] ++ List.replicate (q - 0) .nilIface)) := by
        have := hown
        simp [Value.cells, toList_madeCells_one] at this
        exact this
      have HG1 : Hid (Below w.heap.size w w1) := (Below.refl _ _).grown hgrow (Nat.le_refl _) (fun k h => by cases h)
      have hs1 : w.heap.size + 1 ≤ w1.heap.size := by have := (hown.lt w.heap.size rfl).2; omega
      clear hown hgrow hi hz0 hz1 hz2 d0 d1 d0' d1'
      go_loopw [31] (fun i wr => ∃ (D R : Fo) (us vs2 ns : List Value) (j : Nat), j ≤ q ∧ i = .int .i64 j ∧ Hid (k = D.cat R ∧ vs = us ++ vs2 ∧ us.length = j ∧ ns.length = j) ∧ Hid (FoIn w0 Bt R vs2) ∧
        Hid (wr.ownsRow w.heap.size 53 1 (.slice (some ⟨w.heap.size, 0, none⟩) q q) q (ns ++ List.replicate (q - j) .nilIface)) ∧ Hid (FoIn wr (w.heap.size + 1) (D.subst env) ns) ∧ Hid (Below w.heap.size w wr) ∧ w.heap.size + 1 ≤ wr.heap.size) (fun i _ => q - (intOf i).toNat)
      case atStart => exact ⟨.nil, k, [], vs, [], 0, Nat.zero_le _, rfl, ⟨rfl, rfl, rfl, rfl⟩, HC.out.2.2.2.2.2.2, HO1, rfl, HG1, hs1⟩
      case round =>
        obtain ⟨D, R, us, vs2, ns, j, hj, rfl, HF, HR, HO, HFO, HG, hsz⟩ := hrel
        have hwr : Below w0.heap.size w0 wr := Below.on HW.out HG.out
        by_cases hlt : j < q
        · obtain ⟨c', k', r', rfl⟩ : ∃ c' k' r', R = .node c' k' r' := by
            cases R with
            | nil =>
              have h1 := HF.out
              have h2 : vs2 = [] := HR.out
              have h3 := HE.out.1
              rw [h1.2.1, h2, List.append_nil] at h3
              omega
            | node c' k' r' => exact ⟨c', k', r', rfl⟩
          obtain ⟨v, vr, rfl, hnode, hrest⟩ := HR.out
          have hok2 := (Fo.ok_cat D (.node c' k' r')).1 (HF.out.1 ▸ HK.out)
          have hl2 : D.cells.length + (k'.cells.length + r'.cells.length + 1) = k.cells.length := by
            rw [HF.out.1, Fo.cells_cat]; simp [Fo.cells]
          have hat : w0.cell? ⟨g, j, none⟩ = some v := by
            rw [HC.out.2.2.2.2.2.1 j (by rw [← HE.out.1]; exact hlt), HF.out.2.1]
            simp [List.getD, HF.out.2.2.1]
          have c5 : wr.cell? ⟨g, j, none⟩ = some v := (hwr.cell (World.block_lt_of_cell? _ _ hat)).trans hat
          have HRC := HIH.out k'.cells.length (by omega) c' k' v Bt w0 wr (Nat.le_refl _) ⟨hok2.2.1, hok2.2.2.1, hok2.2.2.2.1, hok2.2.2.2.2.1, hok2.2.2.2.2.2.1, trivial⟩ ⟨v, [], rfl, hnode, rfl⟩ hwr (HS.out.below HG.out) (by omega)
          obtain ⟨vt, vx, rfl⟩ := hnode.iface
          have HRR : Hid (FoIn w0 Bt r' vr) := hrest
          clear hok2 hl2 hat hwr hnode hrest HIH
          go_wp2_with fail
          refine HRC.mono ?_
          rintro e w3 ⟨v3, rfl, hfo3, hg3⟩
          have hif : ∃ t y, v3 = .iface t y := by
            have h1 := hfo3
            simp only [Fo.subst] at h1
            split at h1
            · split at h1
              · exact FoIn.iface h1
              · exact FoIn.iface h1
            · exact FoIn.iface h1
          obtain ⟨nt, nx, rfl⟩ := hif
          have e0 : w3.cell? ⟨w.heap.size, j, none⟩ = some .nilIface := by
            rw [hg3.cell (p := ⟨w.heap.size, j, none⟩) (show w.heap.size < wr.heap.size by omega), HO.out.cellAt j (by omega), List.getElem?_append_right (by have := HF.out.2.2.2; omega), List.getElem?_replicate, if_pos (by have := HF.out.2.2.2; omega)]
          have e1 : w3.frozen? ⟨w.heap.size, j, none⟩ = false := (hg3.frozen (p := ⟨w.heap.size, j, none⟩) (show w.heap.size < wr.heap.size by omega)).trans (HO.out.frozenAt j)
          have HO3 : Hid (w3.ownsRow w.heap.size 53 1 (.slice (some ⟨w.heap.size, 0, none⟩) q q) q (ns ++ List.replicate (q - j) .nilIface)) := row_below HO.out hg3
          have HN : Hid (k = (D.cat (.node c' k' .nil)).cat r' ∧ vs = (us ++ [Value.iface vt vx]) ++ vr ∧ (us ++ [Value.iface vt vx]).length = j + 1 ∧ (ns ++ [Value.iface nt nx]).length = j + 1) := ⟨by rw [Fo.cat_assoc]; exact HF.out.1, by rw [HF.out.2.1]; simp, by simp [HF.out.2.2.1], by simp [HF.out.2.2.2]⟩
          have HF3 : Hid (FoIn (w3.setCell ⟨w.heap.size, j, none⟩ (.iface nt nx)) (w.heap.size + 1) ((D.cat (.node c' k' .nil)).subst env) (ns ++ [Value.iface nt nx])) := by
            show FoIn _ _ _ _
            rw [Fo.subst_cat]
            exact (FoIn.cat _ _ _ _ (HFO.out.below hg3) (hfo3.mono hsz)).setCell (show w.heap.size < w.heap.size + 1 by omega) _
          have HG3 : Hid (Below w.heap.size w (w3.setCell ⟨w.heap.size, j, none⟩ (.iface nt nx))) := (Below.on HG.out hg3).setCell (p := ⟨w.heap.size, j, none⟩) (Nat.le_refl _) _
          have hsz3 : w.heap.size + 1 ≤ w3.heap.size := Nat.le_trans hsz hg3.size
          clear hg3 hfo3 HRC
          go_wp2_with fail
          go_roundw
          case rel => exact ⟨D.cat (.node c' k' .nil), r', us ++ [Value.iface vt vx], vr, ns ++ [Value.iface nt nx], j + 1, by omega, by go_num, HN, HRR, row_next HO3.out HF.out.2.2.2 hlt _, HF3, HG3, by simpa using hsz3⟩
          case measure => simp [intOf]; omega
        · obtain rfl : j = q := by omega
          obtain rfl : R = .nil := by
            have h1 := FoIn.count _ _ HR.out
            have h2 := HE.out
            rw [HF.out.2.1, List.length_append] at h2
            have h3 := HF.out.2.2.1
            cases R with
            | nil => rfl
            | node a b d => simp [Fo.count] at h1; omega
          have hD : D = k := by have := HF.out.1; rw [Fo.cat_nil] at this; exact this.symm
          subst hD
          have x0 : wr.cell? ⟨b, 0, none⟩ = some (.string str) := by
            rw [HES.out]
            exact (hwr.cell (World.block_lt_of_cell? _ _ HC.out.2.2.1)).trans HC.out.2.2.1
          have hns := HF.out.2.2.2
          have HFIN : Hid (SubOut w env c D (.returned (.iface 108 (.pointer (some ⟨wr.heap.size, 0, none⟩)))) (wr.alloc (Obj.cells #[Value.string str, Value.slice (some ⟨w.heap.size, 0, none⟩) j j] 111))) := by
            have hal : Below wr.heap.size wr (wr.alloc (Obj.cells #[Value.string str, Value.slice (some ⟨w.heap.size, 0, none⟩) j j] 111)) := (Below.refl _ _).alloc (Nat.le_refl _) _
            refine ⟨_, rfl, ?_, Below.on HG.out hal⟩
            have hnew := heap_alloc_new wr (Obj.cells #[Value.string str, Value.slice (some ⟨w.heap.size, 0, none⟩) j j] 111)
            simp only [Fo.subst, if_neg (show ¬ c.1 = 0 by have := H0.out; omega)]
            refine ⟨_, [], rfl, .inr (.inr (.inr ⟨H0.out, wr.heap.size, w.heap.size, ns, rfl, by omega, Nat.le_refl _, by rw [← HES.out]; exact cell_of_row _ _ 0 _ _ _ hnew, by rw [hns]; exact cell_of_row _ _ 1 _ _ _ hnew, by simp; omega, fun i hi => ?_, ?_⟩)), rfl⟩
            · refine Lib.cell?_alloc_marked _ ?_
              rw [HO.out.cellAt i (by omega), List.getElem?_append_left (by omega)]
              simp [List.getD, hi]
            · exact (HFO.out.below hal).mono (by omega)
          clear hns
          go_wp2_with fail
          go_ret
          exact HFIN.out

end Go.Proofs.Ytglebnelmnnboaa

namespace Go.Proofs.Ytglebnelmnnboaa
open Go Go.RowKit
set_option linter.unusedVariables false

theorem infoBnd : (Try.prog.info? 63).map (fun i => (i.zero, i.size, i.bytes)) = some (some (.agg #[.int .i64 0, .slice none 0 0]), 2, 32) := by kernel_rfl
def valsB (ds : List It) (bs : List Bnd) : List Value := pairRow (fun i => .int .i64 (bs.getD i Bnd.zero).1) (fun i => .slice (ds.getD i It.zero).1 (bs.getD i Bnd.zero).2.length (ds.getD i It.zero).2.1) bs.length
/-- A slice of bindings that a call owns, all of it in blocks from B on and below U. -/
structure OwnBd (w : World) (B U : Nat) (p : Option Addr) (n c : Nat) (bs : List Bnd) (ds : List It) : Prop where
  len : n = bs.length
  dlen : ds.length = bs.length
  row : w.ownsRow B 63 2 (.slice p n c) n (valsB ds bs)
  item : ∀ i, i < bs.length → OwnCU w (ds.getD i It.zero).2.2.1 (ds.getD i It.zero).2.2.2 (ds.getD i It.zero).1 (bs.getD i Bnd.zero).2.length (ds.getD i It.zero).2.1 (bs.getD i Bnd.zero).2
  low : ∀ i, i < bs.length → B ≤ (ds.getD i It.zero).2.2.1 ∧ (ds.getD i It.zero).2.2.2 ≤ U
  away : ∀ i, i < bs.length → ∀ g, Value.ownBlock (.slice p n c) = some g → g < (ds.getD i It.zero).2.2.1 ∨ (ds.getD i It.zero).2.2.2 ≤ g
  apart : ∀ i j, i < j → j < bs.length → (ds.getD i It.zero).2.2.2 ≤ (ds.getD j It.zero).2.2.1
  top : ∀ g, Value.ownBlock (.slice p n c) = some g → g < U
def OwnBB (w : World) (B U : Nat) (p : Option Addr) (n c : Nat) (bs : List Bnd) : Prop := ∃ ds, OwnBd w B U p n c bs ds
theorem OwnBB.nil (w : World) (B U : Nat) : OwnBB w B U none 0 0 [] := ⟨[], rfl, rfl, World.ownsRow_nil _ _ _ _, fun i h => by simp at h, fun i h => by simp at h, fun i h => by simp at h, fun i j _ h => by simp at h, fun g h => by cases h⟩
theorem OwnBB.bdin {w : World} {B U : Nat} {p : Option Addr} {n c : Nat} {bs : List Bnd} (h : OwnBB w B U p n c bs) : BdIn w p bs := fun hn => by
  obtain ⟨ds, h⟩ := h
  have hl := h.len
  obtain ⟨g, cap, hv, hb, hg⟩ := h.row.form (by omega)
  simp only [Value.slice.injEq, true_and] at hv
  obtain ⟨rfl, rfl⟩ := hv
  refine ⟨g, 0, rfl, fun i hi => ⟨(ds.getD i It.zero).1, (ds.getD i It.zero).2.1, ?_, ?_, (h.item i hi).toC.cin⟩⟩
  · rw [Nat.zero_add, h.row.cellAt (i * 2) (by omega)]
    exact pairRow_at0 _ _ _ _ hi
  · rw [Nat.zero_add, h.row.cellAt (i * 2 + 1) (by omega)]
    exact pairRow_at1 _ _ _ _ hi
theorem OwnBd.other {w w' : World} {B U : Nat} {p : Option Addr} {n c : Nat} {bs : List Bnd} {ds : List It} (h : OwnBd w B U p n c bs ds) (hs : w.heap.size ≤ w'.heap.size) (hb : ∀ k, k < w.heap.size → B ≤ k → k < U → w'.heap[k]? = w.heap[k]?) : OwnBd w' B U p n c bs ds := by
  refine ⟨h.len, h.dlen, ⟨h.row.1, ?_⟩, fun i hi => (h.item i hi).other hs (fun k h1 h2 h3 => hb k h1 (by have := h.low i hi; omega) (by have := h.low i hi; omega)), h.low, h.away, h.apart, h.top⟩
  rcases h.row.2 with h' | ⟨g, cap, cur, hv, hB, hg, r⟩
  · exact .inl h'
  · refine .inr ⟨g, cap, cur, hv, hB, (hb g (Array.getElem?_eq_some_iff.1 hg).1 hB (h.top g ?_)).trans hg, r⟩
    simp only [Value.slice.injEq] at hv
    rw [hv.1]; rfl
theorem OwnBB.below {w w' : World} {B U : Nat} {p : Option Addr} {n c : Nat} {bs : List Bnd} (h : OwnBB w B U p n c bs) (hb : Below w.heap.size w w') : OwnBB w' B U p n c bs := by
  obtain ⟨ds, h⟩ := h
  exact ⟨ds, h.other hb.size (fun k hk _ _ => hb.block k hk)⟩
theorem OwnBB.keep {w w' : World} {B U B' U' : Nat} {p : Option Addr} {n c : Nat} {bs : List Bnd} (h : OwnBB w B U p n c bs) (hk : Keep B' U' w w') (ho : U ≤ B' ∨ U' ≤ B) : OwnBB w' B U p n c bs := by
  obtain ⟨ds, h⟩ := h
  exact ⟨ds, h.other hk.size (fun k h1 h2 h3 => hk.block k h1 (by omega))⟩

theorem toBinding_any (v : Int) (p : Option Addr) (m cap : Nat) (cs : List Cel) (w : World) (hm : m = cs.length) (hn : cs.length + tl cs ≤ 1048576) (hin : CIn w p cs) :
    Calls Try.prog 42 #[.agg #[.int .i64 v, .slice p m cap]] w fun e w' => ∃ g, w.heap.size ≤ g ∧ e = .returned (.agg #[.int .i64 v, .slice (some ⟨g, 0, none⟩) m m]) ∧ OwnC w' g (some ⟨g, 0, none⟩) m m cs ∧ Below w.heap.size w w' := by
  have HS : Hid (∀ W, Below w.heap.size w W → Calls Try.prog 9 #[.slice p m cap] W fun e w' => e = .returned (.slice (some ⟨W.heap.size, 0, none⟩) m m) ∧ OwnC w' W.heap.size (some ⟨W.heap.size, 0, none⟩) m m cs ∧ Below W.heap.size W w') := fun W hW => by rw [hm]; exact toCellS_any p cap cs W hn (hin.below hW)
  clear hm hin
  go_enter Try.func42, Try.ntmps42
  go_wp2_with fail
  have hb0 : ∀ a b c, Below w.heap.size w (((w.alloc a).alloc b).alloc c) := fun a b c => (((Below.refl _ _).alloc (Nat.le_refl _) _).alloc (by simp) _).alloc (by simp; omega) _
  refine (HS.out _ (hb0 _ _ _)).mono ?_
  rintro e w1 ⟨rfl, hown, hb1⟩
  have k1 := (hb1.block (w.heap.size + 1) (by simp)).trans (heap_three w _ _ _).1
  have k2 := (hb1.block (w.heap.size + 1 + 1) (by simp)).trans (heap_three w _ _ _).2
  have c10 := cell_of_row _ _ 0 _ _ _ k1
  have c11 := cell_of_row _ _ 1 _ _ _ k1
  have c20 := cell_of_row _ _ 0 _ _ _ k2
  have c21 := cell_of_row _ _ 1 _ _ _ k2
  have f1 := fun j => frozen_of_row w1 (w.heap.size + 1) j _ _ k1
  have f2 := fun j => frozen_of_row w1 (w.heap.size + 1 + 1) j _ _ k2
  simp only [World.size_alloc] at hown
  have HO : Hid (OwnCU w1 (w.heap.size + 1 + 1 + 1) w1.heap.size (some ⟨w.heap.size + 1 + 1 + 1, 0, none⟩) m m cs) := hown.up
  have HB : Hid (Below w.heap.size w w1) := Below.on (hb0 _ _ _) hb1
  have HG : Hid (w.heap.size + 1 + 1 + 1 ≤ w1.heap.size) := by have := hb1.size; simp at this; exact this
  simp at c10 c11 c20 c21
  clear hown hb1 hb0 k1 k2
  have D0 : (w1.setCell ⟨w.heap.size + 1 + 1, 1, none⟩ (.slice (some ⟨w.heap.size + 1 + 1 + 1, 0, none⟩) m m)).cell? ⟨w.heap.size + 1 + 1, 0, none⟩ = some (.int .i64 v) := (World.cell?_setCell_other _ _ _ _ (by simp)).trans c20
  go_wp2_with fail
  have hne : ∀ j, (w1.setCell ⟨w.heap.size + 1 + 1, 1, none⟩ (.slice (some ⟨w.heap.size + 1 + 1 + 1, 0, none⟩) m m)).cell? ⟨w.heap.size + 1, j, none⟩ = w1.cell? ⟨w.heap.size + 1, j, none⟩ := fun j => World.cell?_setCell_other _ _ _ _ (by simp)
  have d0 : (((w1.setCell ⟨w.heap.size + 1 + 1, 1, none⟩ (.slice (some ⟨w.heap.size + 1 + 1 + 1, 0, none⟩) m m)).setCell ⟨w.heap.size + 1, 0, none⟩ (.int .i64 v)).setCell ⟨w.heap.size + 1, 1, none⟩ (.slice (some ⟨w.heap.size + 1 + 1 + 1, 0, none⟩) m m)).cell? ⟨w.heap.size + 1, 0, none⟩ = some (.int .i64 v) :=
    (World.cell?_setCell_other _ _ _ _ (by simp)).trans (World.cell?_setCell_same' _ _ _ (by rw [hne, c10]; rfl))
  have d1 : (((w1.setCell ⟨w.heap.size + 1 + 1, 1, none⟩ (.slice (some ⟨w.heap.size + 1 + 1 + 1, 0, none⟩) m m)).setCell ⟨w.heap.size + 1, 0, none⟩ (.int .i64 v)).setCell ⟨w.heap.size + 1, 1, none⟩ (.slice (some ⟨w.heap.size + 1 + 1 + 1, 0, none⟩) m m)).cell? ⟨w.heap.size + 1, 1, none⟩ = some (.slice (some ⟨w.heap.size + 1 + 1 + 1, 0, none⟩) m m) :=
    World.cell?_setCell_same' _ _ _ (by rw [World.cell?_setCell_other _ _ _ _ (by simp), hne, c11]; rfl)
  refine bodyPost_ret (v := .agg #[.int .i64 v, .slice (some ⟨w.heap.size + 1 + 1 + 1, 0, none⟩) m m]) (by simp [results, Try.results42, go_sem, d0, d1]) rfl ⟨w.heap.size + 1 + 1 + 1, by omega, rfl, ?_, ?_⟩
  · refine (HO.out.other (by simp) (fun k h1 h2 h3 => ?_)).toC
    exact (Below.heap_setCell _ _ _ _ (show k ≠ w.heap.size + 1 by omega)).trans ((Below.heap_setCell _ _ _ _ (show k ≠ w.heap.size + 1 by omega)).trans (Below.heap_setCell _ _ _ _ (show k ≠ w.heap.size + 1 + 1 by omega)))
  · exact ((HB.out.setCell (p := ⟨_, _, none⟩) (by simp; omega) _).setCell (p := ⟨_, _, none⟩) (by simp) _).setCell (p := ⟨_, _, none⟩) (by simp) _

/-- The row of which k bindings are laid. -/
def rowB (ds : List It) (bs : List Bnd) (k : Nat) : List Value := pairRow (fun i => if i < k then .int .i64 (bs.getD i Bnd.zero).1 else .int .i64 0) (fun i => if i < k then .slice (ds.getD i It.zero).1 (bs.getD i Bnd.zero).2.length (ds.getD i It.zero).2.1 else .slice none 0 0) bs.length
theorem rowB_zero (bs : List Bnd) : (madeCells #[.int .i64 0, .slice none 0 0] (bs.length * 2)).toList = rowB [] bs 0 := by
  apply List.ext_getElem?
  intro k
  rw [rowB, pairRow_get]
  by_cases h : k < bs.length * 2
  · rw [if_pos h]
    rcases Nat.mod_two_eq_zero_or_one k with e | e
    · simp [madeCells, h, e]
    · simp [madeCells, h, e]
  · rw [if_neg h, List.getElem?_eq_none (by rw [Array.length_toList, size_madeCells]; omega)]
theorem rowB_all (ds : List It) (bs : List Bnd) : rowB ds bs bs.length = valsB ds bs := pairRow_congr fun i hi => by simp [hi]
theorem rowB_next (ds : List It) (bs : List Bnd) (k : Nat) (d : It) (hk : k < bs.length) (hd : ds.length = k) : ((rowB ds bs k).set (k * 2) (.int .i64 (bs.getD k Bnd.zero).1)).set (k * 2 + 1) (.slice d.1 (bs.getD k Bnd.zero).2.length d.2.1) = rowB (ds ++ [d]) bs (k + 1) := by
  have h := pairRow_set (f := fun i => if i < k then .int .i64 (bs.getD i Bnd.zero).1 else .int .i64 0) (g := fun i => if i < k then .slice (ds.getD i It.zero).1 (bs.getD i Bnd.zero).2.length (ds.getD i It.zero).2.1 else .slice none 0 0)
    (f' := fun i => if i < k + 1 then .int .i64 (bs.getD i Bnd.zero).1 else .int .i64 0) (g' := fun i => if i < k + 1 then .slice ((ds ++ [d]).getD i It.zero).1 (bs.getD i Bnd.zero).2.length ((ds ++ [d]).getD i It.zero).2.1 else .slice none 0 0) hk (fun j hj hne => by
      by_cases h2 : j < k
      · simp only [if_pos h2, if_pos (show j < k + 1 by omega), ds_append_at ds d j (by omega), if_neg (show ¬ j = ds.length by omega), and_self]
      · simp only [if_neg h2, if_neg (show ¬ j < k + 1 by omega), and_self])
  simp only [if_pos (show k < k + 1 by omega), ds_append_at ds d k (by omega), if_pos hd.symm] at h
  exact h
/-- Bindings whose terms have no room to spare. -/
def TightBd (w : World) (p : Option Addr) (bs : List Bnd) : Prop := ∀ b o, p = some ⟨b, o, none⟩ → ∀ i, i < bs.length → ∃ q, w.cell? ⟨b, o + i * 2 + 1, none⟩ = some (.slice q (bs.getD i Bnd.zero).2.length (bs.getD i Bnd.zero).2.length)
theorem TightBd.below {w w' : World} {p : Option Addr} {bs : List Bnd} (h : TightBd w p bs) (hb : Below w.heap.size w w') : TightBd w' p bs := fun b o hp i hi => by
  obtain ⟨q, hq⟩ := h b o hp i hi
  exact ⟨q, (hb.cell (World.block_lt_of_cell? _ _ hq)).trans hq⟩

set_option maxRecDepth 100000 in
set_option maxHeartbeats 1000000 in
theorem toBd_any (p : Option Addr) (cap : Nat) (bs : List Bnd) (w : World) (hn : bs.length + tll (trm bs) ≤ 1048576) (hin : BdArg w p bs) :
    Calls Try.prog 16 #[.slice p bs.length cap] w fun e w' => e = .returned (.slice (some ⟨w.heap.size, 0, none⟩) bs.length bs.length) ∧ OwnBB w' w.heap.size w'.heap.size (some ⟨w.heap.size, 0, none⟩) bs.length bs.length bs ∧ TightBd w' (some ⟨w.heap.size, 0, none⟩) bs ∧ Below w.heap.size w w' := by
  obtain ⟨i0, hi, hz0, hz1, hz2⟩ := info_parts infoBnd
  have hmx : bs.length ≤ maxLen := by unfold maxLen; omega
  have HC : Hid (BdArg w p bs) := hin
  clear hin
  go_enter Try.func16, Try.ntmps16
  go_wp2_with (at_make; refine wpList_make_full _ rfl _ _ 32 rfl w.heap.size 63 i0 (.agg #[.int .i64 0, .slice none 0 0]) 2 Try.underlying32 hi hz0 hz1 _ _ _ _ bs.length rfl rfl rfl rfl (by rw [hz2]; omega) hmx (Nat.le_refl _) ?_; intro w1 hown hgrow)
  have HB1 : Hid (Below w.heap.size w w1) := (Below.refl _ _).grown hgrow (Nat.le_refl _) (fun k h => by cases h)
  have HO : Hid (w1.ownsRow w.heap.size 63 2 (.slice (some ⟨w.heap.size, 0, none⟩) bs.length bs.length) bs.length (rowB [] bs 0)) := by
    have := hown
    simp only [Value.cells] at this
    rw [← rowB_zero]
    exact this
  clear hown hgrow
  go_loopw [4] (fun i wr => ∃ (k : Nat) (ds : List It), k ≤ bs.length ∧ i = .int .i64 k ∧ Hid (ds.length = k ∧ ∀ i, i < k → (ds.getD i It.zero).2.1 = (bs.getD i Bnd.zero).2.length) ∧ Hid (wr.ownsRow w.heap.size 63 2 (.slice (some ⟨w.heap.size, 0, none⟩) bs.length bs.length) bs.length (rowB ds bs k)) ∧
    Hid (∀ i, i < k → OwnCU wr (ds.getD i It.zero).2.2.1 (ds.getD i It.zero).2.2.2 (ds.getD i It.zero).1 (bs.getD i Bnd.zero).2.length (ds.getD i It.zero).2.1 (bs.getD i Bnd.zero).2 ∧ w.heap.size < (ds.getD i It.zero).2.2.1 ∧ (ds.getD i It.zero).2.2.2 ≤ wr.heap.size) ∧
    Hid (∀ i j, i < j → j < k → (ds.getD i It.zero).2.2.2 ≤ (ds.getD j It.zero).2.2.1) ∧ Hid (Below w.heap.size w wr)) (fun i _ => bs.length - (intOf i).toNat)
  case atStart => exact ⟨0, [], Nat.zero_le _, rfl, ⟨rfl, fun i h => by omega⟩, HO, fun i h => by omega, fun i j _ h => by omega, HB1⟩
  case round =>
    obtain ⟨k, ds, hk, rfl, HD, HR, HIT, HAP, HB⟩ := hrel
    by_cases hlt : k < bs.length
    · obtain ⟨b, o, rfl, hcs⟩ := (HC.out.below HB.out).lies (by omega)
      obtain ⟨q, qc, d0, d1, d2⟩ := hcs k hlt
      have hbd := tll_at (trm bs) k (by rw [trm_len]; exact hlt)
      rw [trm_at] at hbd
      obtain ⟨m, em⟩ : ∃ x, x = (bs.getD k Bnd.zero).2.length := ⟨_, rfl⟩
      obtain ⟨vv, evv⟩ : ∃ x, x = (bs.getD k Bnd.zero).1 := ⟨_, rfl⟩
      have HS := toBinding_any vv q m qc (bs.getD k Bnd.zero).2 wr em (by omega) d2
      have HM : Hid (m = (bs.getD k Bnd.zero).2.length ∧ vv = (bs.getD k Bnd.zero).1) := ⟨em, evv⟩
      rw [← em] at d1
      rw [← evv] at d0
      have hHw : w.heap.size < wr.heap.size := (HR.out.lt w.heap.size rfl).2
      clear hcs d2 hbd em evv
      go_wp2_with fail
      refine HS.mono ?_
      rintro e w2 ⟨g, hg, rfl, ho2, hb2⟩
      have HR2 : Hid (w2.ownsRow w.heap.size 63 2 (.slice (some ⟨w.heap.size, 0, none⟩) bs.length bs.length) bs.length (rowB ds bs k)) := row_below HR.out hb2
      have e0 : w2.cell? ⟨w.heap.size, k * 2, none⟩ = some (.int .i64 0) := by
        rw [HR2.out.cellAt (k * 2) (by omega), rowB, pairRow_at0 _ _ _ _ hlt]; simp
      have e0' : w2.cell? ⟨w.heap.size, k * 2 + 1, none⟩ = some (.slice none 0 0) := by
        rw [HR2.out.cellAt (k * 2 + 1) (by omega), rowB, pairRow_at1 _ _ _ _ hlt]; simp
      have e1 := HR2.out.frozenAt (k * 2)
      have e1' := HR2.out.frozenAt (k * 2 + 1)
      have hw2 := hb2.size
      obtain ⟨d, ed⟩ : ∃ d : It, d = (some ⟨g, 0, none⟩, m, g, w2.heap.size) := ⟨_, rfl⟩
      have HN : Hid (∀ u v, u = Value.int .i64 vv → v = Value.slice (some ⟨g, 0, none⟩) m m → ((w2.setCell ⟨w.heap.size, k * 2, none⟩ u).setCell ⟨w.heap.size, k * 2 + 1, none⟩ v).ownsRow w.heap.size 63 2 (.slice (some ⟨w.heap.size, 0, none⟩) bs.length bs.length) bs.length (rowB (ds ++ [d]) bs (k + 1)) ∧
          (∀ i, i < k + 1 → OwnCU ((w2.setCell ⟨w.heap.size, k * 2, none⟩ u).setCell ⟨w.heap.size, k * 2 + 1, none⟩ v) ((ds ++ [d]).getD i It.zero).2.2.1 ((ds ++ [d]).getD i It.zero).2.2.2 ((ds ++ [d]).getD i It.zero).1 (bs.getD i Bnd.zero).2.length ((ds ++ [d]).getD i It.zero).2.1 (bs.getD i Bnd.zero).2 ∧
            w.heap.size < ((ds ++ [d]).getD i It.zero).2.2.1 ∧ ((ds ++ [d]).getD i It.zero).2.2.2 ≤ ((w2.setCell ⟨w.heap.size, k * 2, none⟩ u).setCell ⟨w.heap.size, k * 2 + 1, none⟩ v).heap.size) ∧
          (∀ i j, i < j → j < k + 1 → ((ds ++ [d]).getD i It.zero).2.2.2 ≤ ((ds ++ [d]).getD j It.zero).2.2.1)) := fun u v hu hv => by
        have hdl := HD.out.1
        have hset : ∀ b, w.heap.size < b → ((w2.setCell ⟨w.heap.size, k * 2, none⟩ u).setCell ⟨w.heap.size, k * 2 + 1, none⟩ v).heap[b]? = w2.heap[b]? := fun b hb => (Below.heap_setCell _ _ _ _ (show b ≠ w.heap.size by omega)).trans (Below.heap_setCell _ _ _ _ (show b ≠ w.heap.size by omega))
        have hsz : ((w2.setCell ⟨w.heap.size, k * 2, none⟩ u).setCell ⟨w.heap.size, k * 2 + 1, none⟩ v).heap.size = w2.heap.size := by simp
        refine ⟨?_, fun i hi => ?_, fun i j hij hj => ?_⟩
        · have h1 := ((HR2.out.stored (k * 2) u).1.stored (k * 2 + 1) v).1
          rw [← rowB_next ds bs k d hlt hdl, ← HM.out.1, ← HM.out.2, ed, ← hu, ← hv]
          exact h1
        · rw [ds_append_at _ _ _ (by omega)]
          by_cases e : i = k
          · rw [if_pos (by omega), e, ← HM.out.1, ed]
            exact ⟨ho2.up.other (by simp) (fun b h1 h2 h3 => hset b (by omega)), by show w.heap.size < g; omega, by rw [hsz]; exact Nat.le_refl _⟩
          · rw [if_neg (by omega)]
            have hold := HIT.out i (by omega)
            exact ⟨(hold.1.below hb2).other (by simp) (fun b h1 h2 h3 => hset b (by omega)), hold.2.1, by rw [hsz]; omega⟩
        · rw [ds_append_at _ _ _ (by omega), ds_append_at _ _ _ (by omega), if_neg (by omega)]
          by_cases e : j = k
          · rw [if_pos (by omega), ed]
            have := (HIT.out i (by omega)).2.2
            show _ ≤ g
            omega
          · rw [if_neg (by omega)]
            exact HAP.out i j hij (by omega)
      have HB2 : Hid (Below w.heap.size w w2) := Below.on HB.out hb2
      have HDL : Hid ((ds ++ [d]).length = k + 1 ∧ ∀ i, i < k + 1 → ((ds ++ [d]).getD i It.zero).2.1 = (bs.getD i Bnd.zero).2.length) := by
        have h0 := HD.out
        refine ⟨by simp [h0.1], fun i hi => ?_⟩
        rw [ds_append_at _ _ _ (by omega)]
        by_cases e : i = k
        · rw [if_pos (by omega), ed, e]; exact HM.out.1
        · rw [if_neg (by omega)]; exact h0.2 i (by omega)
      clear ho2 hb2 hw2 HS ed
      go_wp2_with fail
      go_roundw
      case rel =>
        obtain ⟨n1, n2, n3⟩ := HN.out _ _ rfl rfl
        exact ⟨k + 1, ds ++ [d], by omega, by go_num, HDL, n1, n2, n3, (HB2.out.setCell (p := ⟨w.heap.size, k * 2, none⟩) (Nat.le_refl _) _).setCell (p := ⟨w.heap.size, k * 2 + 1, none⟩) (Nat.le_refl _) _⟩
      case measure => simp [intOf]; omega
    · obtain rfl : k = bs.length := by omega
      have HFIN : Hid (OwnBB wr w.heap.size wr.heap.size (some ⟨w.heap.size, 0, none⟩) bs.length bs.length bs) := by
        have hr := HR.out
        rw [rowB_all] at hr
        refine ⟨ds, rfl, HD.out.1, hr, fun i hi => (HIT.out i hi).1, fun i hi => ⟨by have := (HIT.out i hi).2; omega, (HIT.out i hi).2.2⟩, fun i hi g hg => ?_, HAP.out, fun g hg => ?_⟩
        · have : g = w.heap.size := (Option.some.inj hg).symm
          have h2 := (HIT.out i hi).2.1
          omega
        · exact (hr.lt g hg).2
      have HTI : Hid (TightBd wr (some ⟨w.heap.size, 0, none⟩) bs) := fun b o hp i hi => by
        have hr := HR.out
        rw [rowB_all] at hr
        simp only [Option.some.injEq, Addr.mk.injEq, and_true] at hp
        obtain ⟨rfl, rfl⟩ := hp
        refine ⟨(ds.getD i It.zero).1, ?_⟩
        rw [Nat.zero_add, hr.cellAt (i * 2 + 1) (by omega), valsB, pairRow_at1 _ _ _ _ hi, HD.out.2 i hi]
      go_wp2_with fail
      go_ret
      exact ⟨rfl, HFIN.out, HTI.out, HB.out⟩

/-- Equal bindings are found equal. -/
theorem eqBinding_any (v : Int) (p q : Option Addr) (m c1 c2 : Nat) (cs : List Cel) (w : World) (hm : m = cs.length) (hn : cs.length + tl cs ≤ 1000000000) (hx : CIn w p cs) (hy : CIn w q cs) :
    Calls Try.prog 49 #[.agg #[.int .i64 v, .slice p m c1], .agg #[.int .i64 v, .slice q m c2]] w fun e w' => e = .returned (.bool true) ∧ Below w.heap.size w w' := by
  have HS : Hid (∀ W, Below w.heap.size w W → Calls Try.prog 11 #[.slice p m c1, .slice q m c2] W fun e w' => e = .returned (.bool true) ∧ Below W.heap.size W w') := fun W hW => by
    have := eqCellS_any p q c1 c2 cs cs W hn hn (hx.below hW) (hy.below hW)
    rw [hm]
    simpa using this
  have HB : Hid (∀ a b, Below w.heap.size w ((w.alloc a).alloc b)) := fun a b => ((Below.refl _ _).alloc (Nat.le_refl _) _).alloc (by simp) _
  clear hm hx hy
  go_enter Try.func49, Try.ntmps49
  go_wp2_with fail
  refine (HS.out _ (HB.out _ _)).mono ?_
  rintro e w1 ⟨rfl, hb1⟩
  have HB1 : Hid _ := Below.on (HB.out _ _) hb1
  clear hb1
  go_wp2_with fail
  go_ret
  exact ⟨rfl, HB1.out⟩

set_option maxRecDepth 100000 in
theorem eqBd_any (p q : Option Addr) (n m c1 c2 : Nat) (bs : List Bnd) (w : World) (hn : n = bs.length) (hm : m = bs.length) (hl : bs.length + tll (trm bs) ≤ 100000000) (hx : BdIn w p bs) (hy : BdIn w q bs) :
    Calls Try.prog 18 #[.slice p n c1, .slice q m c2] w fun e w' => e = .returned (.bool true) ∧ Below w.heap.size w w' := by
  obtain rfl : n = m := by omega
  have HX : Hid (BdIn w p bs ∧ BdIn w q bs) := ⟨hx, hy⟩
  have HN : Hid (n = bs.length) := hn
  have hnb : n ≤ 100000000 := by omega
  clear hx hy hn hm
  go_enter Try.func18, Try.ntmps18
  go_wp2_with fail
  go_loopw [5] (fun i wr => ∃ (k : Nat), k ≤ n ∧ i = .int .i64 k ∧ Hid (Below w.heap.size w wr)) (fun i _ => n - (intOf i).toNat)
  case atStart => exact ⟨0, Nat.zero_le _, rfl, Below.refl _ _⟩
  case round =>
    obtain ⟨k, hk, rfl, HB⟩ := hrel
    by_cases hlt : k < n
    · have hkl : k < bs.length := by rw [← HN.out]; exact hlt
      obtain ⟨b, o, rfl, hcx⟩ := (HX.out.1.below HB.out) (by omega)
      obtain ⟨b', o', rfl, hcy⟩ := (HX.out.2.below HB.out) (by omega)
      obtain ⟨q1, e1, d0, d1, d2⟩ := hcx k hkl
      obtain ⟨q2, e2, d0', d1', d2'⟩ := hcy k hkl
      have hbd := tll_at (trm bs) k (by rw [trm_len]; exact hkl)
      rw [trm_at] at hbd
      obtain ⟨m, em⟩ : ∃ x, x = (bs.getD k Bnd.zero).2.length := ⟨_, rfl⟩
      obtain ⟨vv, evv⟩ : ∃ x, x = (bs.getD k Bnd.zero).1 := ⟨_, rfl⟩
      have HS : Hid (∀ W, Below wr.heap.size wr W → Calls Try.prog 49 #[.agg #[.int .i64 vv, .slice q1 m e1], .agg #[.int .i64 vv, .slice q2 m e2]] W fun e w' => e = .returned (.bool true) ∧ Below W.heap.size W w') := fun W hW => eqBinding_any vv q1 q2 m e1 e2 _ W em (by omega) (d2.below hW) (d2'.below hW)
      rw [← em] at d1 d1'
      rw [← evv] at d0 d0'
      have hk0 : (0 : Int) ≤ (k : Int) := by omega
      have hkn : (k : Int) < (n : Int) := by omega
      clear hcx hcy d2 d2' hbd em evv
      go_wp2_with fail
      go_region_held3 (fun W => W.cell? ⟨b, o + k * 2, none⟩ = some (.int .i64 vv) ∧ W.cell? ⟨b, o + k * 2 + 1, none⟩ = some (.slice q1 m e1) ∧ W.cell? ⟨b', o' + k * 2, none⟩ = some (.int .i64 vv) ∧ W.cell? ⟨b', o' + k * 2 + 1, none⟩ = some (.slice q2 m e2)) (first | exact kc | go_keep)
        ((go_at_call 49; refine (HS.out _ (Below.refl wr.heap.size wr).drew).mono ?_; rintro e w3 ⟨rfl, hb3⟩; have hb4 : Below wr.heap.size wr w3 := ((Below.refl wr.heap.size wr).drew).trans hb3; have kc : w3.cell? ⟨b, o + k * 2, none⟩ = some (.int .i64 vv) ∧ w3.cell? ⟨b, o + k * 2 + 1, none⟩ = some (.slice q1 m e1) ∧ w3.cell? ⟨b', o' + k * 2, none⟩ = some (.int .i64 vv) ∧ w3.cell? ⟨b', o' + k * 2 + 1, none⟩ = some (.slice q2 m e2) := ⟨(hb4.cell (World.block_lt_of_cell? _ _ d0)).trans d0, (hb4.cell (World.block_lt_of_cell? _ _ d1)).trans d1, (hb4.cell (World.block_lt_of_cell? _ _ d0')).trans d0', (hb4.cell (World.block_lt_of_cell? _ _ d1')).trans d1'⟩))
      have HB3 : Hid (Below w.heap.size w w3) := Below.on HB.out hb4
      clear hb3 hb4 kc
      go_wp2_with fail
      go_roundw
      case rel => exact ⟨k + 1, by omega, by go_num, HB3⟩
      case measure => simp [intOf]; omega
    · obtain rfl : k = n := by omega
      go_wp2_with fail
      go_ret
      exact ⟨rfl, HB.out⟩

end Go.Proofs.Ytglebnelmnnboaa

