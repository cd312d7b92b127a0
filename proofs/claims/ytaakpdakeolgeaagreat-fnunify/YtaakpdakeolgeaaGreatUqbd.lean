/- Texts of Ap3, RenG, Ap4, RegK. Own work of the verifier. -/
import Derived.Test.YtaakpdakeolgeaaGreatUqbc
import Derived.Test.YtaakpdakeolgeaaGreatUqan
import Derived.Test.YtaakpdakeolgeaaGreatUqah
import Derived.Test.YtaakpdakeolgeaaGreatUqbb
import Derived.Test.YtaakpdakeolgeaaGreatUqba
import Derived.Deep.RegionHeld3
namespace Go.Proofs.YtaakpdakeolgeaaGreat
open Go Go.RowKit
set_option linter.unusedVariables false
set_option maxRecDepth 100000 in
theorem sizeWith_any (wa : World) (bs : List Bnd) (env : Env) (henv : EnvOf bs env) (pb mb : Nat) (c : Cel) (k : Fo) (v : Value) (Bt : Nat) (w : World) (hok : (Fo.node c k .nil).ok) (hfo : FoIn w Bt (.node c k .nil) [v]) (hk : k.cells.length ≤ 2000) (hs : ASt wa bs pb mb w) :
    Calls Tryz.prog 31 #[v, .func (.func 32) #[] #[.pointer (some ⟨pb, 0, none⟩)]] w fun e w' => e = .returned (.int .i64 ((min (szC bs (c :: k.cells)) 2001 : Nat) : Int)) ∧ Below w.heap.size w w' := by
  have HBX : Hid (Below w.heap.size w ((w.alloc (.cells #[.func (.func 32) #[] #[.pointer (some ⟨pb, 0, none⟩)]] 65)).alloc (.cells #[.int .i64 0] 3))) := ((Below.refl _ _).alloc (Nat.le_refl _) _).alloc (by simp) _
  have hpb : pb < w.heap.size := World.block_lt_of_cell? _ _ hs.cell
  have k0 : ((w.alloc (.cells #[.func (.func 32) #[] #[.pointer (some ⟨pb, 0, none⟩)]] 65)).alloc (.cells #[.int .i64 0] 3)).heap[w.heap.size]? = some (.cells #[.func (.func 32) #[] #[.pointer (some ⟨pb, 0, none⟩)]] 65) := (Below.heap_alloc _ _ _ (by simp)).trans (heap_alloc_new _ _)
  have k1 : ((w.alloc (.cells #[.func (.func 32) #[] #[.pointer (some ⟨pb, 0, none⟩)]] 65)).alloc (.cells #[.int .i64 0] 3)).heap[w.heap.size + 1]? = some (.cells #[.int .i64 0] 3) := by
    have := heap_alloc_new (w.alloc (.cells #[.func (.func 32) #[] #[.pointer (some ⟨pb, 0, none⟩)]] 65)) (.cells #[.int .i64 0] 3)
    rwa [World.size_alloc] at this
  have HS : Hid (SzS wa bs pb mb (w.heap.size + 1) w.heap.size 0 ((w.alloc (.cells #[.func (.func 32) #[] #[.pointer (some ⟨pb, 0, none⟩)]] 65)).alloc (.cells #[.int .i64 0] 3))) :=
    ⟨cell_of_row _ _ 0 _ _ _ k1, frozen_of_row _ _ 0 _ _ k1, cell_of_row _ _ 0 _ _ _ k0, hs.below HBX.out, by omega, by omega, by have := hs.low.size; omega⟩
  have HW := sizeWalk_any wa bs env henv pb mb (w.heap.size + 1) w.heap.size k.cells.length c k v Bt (w.heap.size + 1) 0 w _ (Nat.le_refl _) hok hfo HBX.out (by omega) (by simp) (Nat.le_refl _) HS.out (by omega)
  have hsb := szC_bound henv (c :: k.cells)
  obtain ⟨t, y, rfl⟩ := hfo.iface
  rw [Nat.zero_add] at HW
  obtain ⟨z, ez⟩ : ∃ z, z = szC bs (c :: k.cells) := ⟨_, rfl⟩
  rw [← ez] at HW hsb ⊢
  have hzb : z ≤ 100000000 := by simp at hsb; omega
  clear hok hfo hs k0 k1 HS hsb ez
  go_enter Tryz.func31, Tryz.ntmps31
  go_wp2_with fail
  refine HW.mono ?_
  rintro e w2 ⟨rfl, hst, hb⟩
  have hc := hst.cnt
  have HB2 : Hid (Below w.heap.size w w2) := HBX.out.trans (hb.mono (by omega))
  clear hst hb HW
  go_wp2_with fail
  all_goals (go_ret; exact ⟨ret_int (by omega), HB2.out⟩)
def SubOut (w : World) (env : Env) (c : Cel) (k : Fo) (e : Ending) (w' : World) : Prop :=
  ∃ v, e = .returned v ∧ FoIn w' w.heap.size ((Fo.node c k .nil).subst env) [v] ∧ Below w.heap.size w w'
set_option maxRecDepth 100000 in
theorem put2_any (w0 : World) (bs : List Bnd) (env : Env) (henv : EnvOf bs env) (pb mb : Nat) (c : Cel) (w : World) (hc : c.1 = 0) (h0 : 0 ≤ c.2.1) (h1 : c.2.1 ≤ 1000000) (hs : ASt w0 bs pb mb w) :
    Calls Tryz.prog 35 #[.int .i64 c.2.1, .pointer (some ⟨pb, 0, none⟩)] w (SubOut w env c .nil) := by
  obtain ⟨N, E, hm, he⟩ := hs.map
  have hcell := hs.cell
  have hl := hm.look (t := 62) Tryz.underlying62 (zeroCells w) c.2.1 h0 h1
  have hk := BE.look _ _ he c.2.1
  have hlk : look bs c.2.1 = (look env c.2.1).map (fun t => t.1 :: t.2.cells) := by rw [henv.1, look_env]
  cases hx : look env c.2.1 with
  | none =>
    rw [hx] at hlk
    rw [hk.2 hlk] at hl
    simp only [Option.isSome_none] at hl
    have HF : Hid (SubOut w env c .nil (.returned (.iface 63 (.int .i64 c.2.1))) w) := ⟨_, rfl, by simp only [Fo.subst, if_pos hc, hx]; exact ⟨_, [], rfl, .inl ⟨hc, rfl⟩, rfl⟩, Below.refl _ _⟩
    obtain ⟨x, ex⟩ : ∃ x, x = c.2.1 := ⟨_, rfl⟩
    rw [← ex] at hl HF ⊢
    clear hk hx hlk hs hm he ex
    go_enter Tryz.func35, Tryz.ntmps35
    go_wp2
    go_ret
    exact HF.out
  | some t =>
    rw [hx] at hlk
    obtain ⟨q, cp, hq, hcp1, hcp2, hin⟩ := hk.1 _ hlk
    rw [hq] at hl
    simp only [Option.isSome_some] at hl
    have ht : t.ok ∧ (t.1 :: t.2.cells).length ≤ 2000 := henv.2 _ (look_mem hx)
    have HT := termOf_any t.1 t.2 q (t.1 :: t.2.cells).length cp w ht.1 (by simp) hcp1 hcp2 (hin.below hs.low)
    have HF : Hid (∀ v w', FoIn w' w.heap.size (.node t.1 t.2 .nil) [v] → Below w.heap.size w w' → SubOut w env c .nil (.returned v) w') := fun v w' h1 h2 => ⟨v, rfl, by simp only [Fo.subst, if_pos hc, hx]; exact h1, h2⟩
    obtain ⟨x, ex⟩ : ∃ x, x = c.2.1 := ⟨_, rfl⟩
    obtain ⟨m, em⟩ : ∃ m, m = (t.1 :: t.2.cells).length := ⟨_, rfl⟩
    rw [← em] at hl HT
    rw [← ex] at hl ⊢
    clear hk hx hlk hs hm he ex em ht hq hin hcp1 hcp2
    go_enter Tryz.func35, Tryz.ntmps35
    go_wp2_with fail
    refine HT.mono ?_
    rintro e w1 ⟨v, rfl, hf1, hb1⟩
    have HF1 : Hid _ := HF.out v w1 hf1 hb1
    obtain ⟨tv, xv, rfl⟩ := hf1.iface
    clear hf1 hb1 HT
    go_wp2_with fail
    go_ret
    exact HF1.out
set_option maxRecDepth 100000 in
set_option maxHeartbeats 1000000 in
theorem replaceS_any (wa : World) (bs : List Bnd) (env : Env) (henv : EnvOf bs env) (pb mb : Nat) : ∀ (N : Nat) (c : Cel) (k : Fo) (v : Value) (Bt : Nat) (w0 w : World), k.cells.length ≤ N → (Fo.node c k .nil).ok → FoIn w0 Bt (.node c k .nil) [v] → Below w0.heap.size w0 w → ASt wa bs pb mb w → k.cells.length ≤ 100000 →
    Calls Tryz.prog 34 #[v, .func (.func 35) #[] #[.pointer (some ⟨pb, 0, none⟩)]] w (SubOut w env c k) := by
  intro N
  induction N using Nat.strongRecOn with
  | _ N ih =>
    intro c k v Bt w0 w hN hok hfo hw hs hlen
    obtain ⟨v', vr, e, hnode, _⟩ := hfo
    obtain ⟨rfl, rfl⟩ := List.cons.inj e
    rcases hnode with ⟨h0, rfl⟩ | ⟨h0, rfl⟩ | ⟨h0, rfl⟩ | ⟨h0, b, g, vs, rfl, hcomp⟩
    · have hk : k = .nil := hok.2.2.2.1 (by rw [h0]; decide)
      subst hk
      have hx : 0 ≤ c.2.1 ∧ c.2.1 ≤ 1000000 := by have := hok.1; rw [h0] at this; simp [cellB] at this; omega
      have HW := put2_any wa bs env henv pb mb c w h0 hx.1 hx.2 hs
      obtain ⟨x, ex⟩ : ∃ x, x = c.2.1 := ⟨_, rfl⟩
      rw [← ex] at HW ⊢
      have n1 := isVar
      clear ih hok hw hs hx ex e hlen
      go_enter Tryz.func34, Tryz.ntmps34
      go_wp2_with fail
      refine HW.mono ?_
      rintro e w1 ⟨v1, rfl, h1, h2⟩
      have HF : Hid (SubOut w env c .nil (.returned v1) w1) := ⟨v1, rfl, h1, h2⟩
      have hif : ∃ t y, v1 = .iface t y := by
        simp only [Fo.subst, if_pos h0] at h1
        split at h1
        · exact FoIn.iface h1
        · exact FoIn.iface h1
      obtain ⟨t1, y1, rfl⟩ := hif
      clear h1 h2 HW
      go_wp2_with fail
      go_ret
      exact HF.out
    · have hk : k = .nil := hok.2.2.2.1 (by rw [h0]; decide)
      subst hk
      have n1 := noVar_num
      have n2 := noComp_num
      have HF : Hid (SubOut w env c .nil (.returned (.iface 130 (.int .i64 c.2.1))) w) := ⟨_, rfl, by simp only [Fo.subst, if_neg (show ¬ c.1 = 0 by omega)]; exact ⟨_, [], rfl, .inr (.inl ⟨h0, rfl⟩), rfl⟩, Below.refl _ _⟩
      obtain ⟨x, ex⟩ : ∃ x, x = Value.int .i64 c.2.1 := ⟨_, rfl⟩
      rw [← ex] at HF ⊢
      clear ih hok hw hs ex e hlen
      go_enter Tryz.func34, Tryz.ntmps34
      go_wp2_with fail
      go_ret
      exact HF.out
    · have hk : k = .nil := hok.2.2.2.1 (by rw [h0]; decide)
      subst hk
      have n1 := noVar_atom
      have n2 := noComp_atom
      have HF : Hid (SubOut w env c .nil (.returned (.iface 131 (.string (strOfNums c.2.2)))) w) := ⟨_, rfl, by simp only [Fo.subst, if_neg (show ¬ c.1 = 0 by omega)]; exact ⟨_, [], rfl, .inr (.inr (.inl ⟨h0, rfl⟩)), rfl⟩, Below.refl _ _⟩
      obtain ⟨x, ex⟩ : ∃ x, x = Value.string (strOfNums c.2.2) := ⟨_, rfl⟩
      rw [← ex] at HF ⊢
      clear ih hok hw hs ex e hlen
      go_enter Tryz.func34, Tryz.ntmps34
      go_wp2_with fail
      go_ret
      exact HF.out
    · have n1 := noVar_comp
      have n2 := isComp
      have HC : Hid (CompAt w0 Bt c.2.2 k b g vs) := hcomp
      have hvl2 : vs.length = k.count := FoIn.count _ _ hcomp.2.2.2.2.2.2
      obtain ⟨q, eq⟩ : ∃ q, q = vs.length := ⟨_, rfl⟩
      have HE : Hid (q = vs.length ∧ vs.length = k.count) := ⟨eq, hvl2⟩
      have hq : q ≤ 100000 := by have := Fo.count_le k; omega
      have HK : Hid k.ok := hok.2.2.2.2.1
      have d0 := (hw.cell (World.block_lt_of_cell? _ _ hcomp.2.2.1)).trans hcomp.2.2.1
      have d1 := (hw.cell (World.block_lt_of_cell? _ _ hcomp.2.2.2.1)).trans hcomp.2.2.2.1
      rw [← eq] at d1
      have HBB : Hid (b < w0.heap.size) := World.block_lt_of_cell? _ _ hcomp.2.2.1
      have HS : Hid (ASt wa bs pb mb w) := hs
      have HW : Hid (Below w0.heap.size w0 w) := hw
      have HIH : Hid _ := ih
      have H0 : Hid (c.1 = 3) := h0
      obtain ⟨str, es⟩ : ∃ str, str = strOfNums c.2.2 := ⟨_, rfl⟩
      rw [← es] at d0
      have HES : Hid (str = strOfNums c.2.2) := es
      obtain ⟨i0, hi, hz0, hz1, hz2⟩ := info_parts infoTerm
      have hmx : q ≤ maxLen := by unfold maxLen; omega
      clear ih hok hw hs e hcomp eq hvl2 es h0
      go_enter Tryz.func34, Tryz.ntmps34
      go_wp2_with (at_make; refine wpList_make_full _ rfl _ _ 113 rfl w.heap.size 57 i0 .nilIface 1 Tryz.underlying113 hi hz0 hz1 _ _ _ _ q rfl rfl rfl rfl (by rw [hz2]; omega) hmx (Nat.le_refl _) ?_; intro w1 hown hgrow; have d0' := ((World.cell?_of_block (w := w) (a := ⟨b, 0, none⟩) (hgrow.block b (World.block_lt_of_cell? _ _ d0) (fun h => by cases h)))).trans d0; have d1' := ((World.cell?_of_block (w := w) (a := ⟨b, 1, none⟩) (hgrow.block b (World.block_lt_of_cell? _ _ d1) (fun h => by cases h)))).trans d1)
      have HO1 : Hid (w1.ownsRow w.heap.size 57 1 (.slice (some ⟨w.heap.size, 0, none⟩) q q) q ([] ++ List.replicate (q - 0) .nilIface)) := by
        have := hown
        simp [Value.cells, toList_madeCells_one] at this
        exact this
      have HG1 : Hid (Below w.heap.size w w1) := (Below.refl _ _).grown hgrow (Nat.le_refl _) (fun k h => by cases h)
      have hs1 : w.heap.size + 1 ≤ w1.heap.size := by have := (hown.lt w.heap.size rfl).2; omega
      clear hown hgrow hi hz0 hz1 hz2 d0 d1 d0' d1'
      go_loopw [31] (fun i wr => ∃ (D R : Fo) (us vs2 ns : List Value) (j : Nat), j ≤ q ∧ i = .int .i64 j ∧ Hid (k = D.cat R ∧ vs = us ++ vs2 ∧ us.length = j ∧ ns.length = j) ∧ Hid (FoIn w0 Bt R vs2) ∧
        Hid (wr.ownsRow w.heap.size 57 1 (.slice (some ⟨w.heap.size, 0, none⟩) q q) q (ns ++ List.replicate (q - j) .nilIface)) ∧ Hid (FoIn wr (w.heap.size + 1) (D.subst env) ns) ∧ Hid (Below w.heap.size w wr) ∧ w.heap.size + 1 ≤ wr.heap.size) (fun i _ => q - (intOf i).toNat)
      case atStart => exact ⟨.nil, k, [], vs, [], 0, Nat.zero_le _, rfl, ⟨rfl, rfl, rfl, rfl⟩, HC.out.2.2.2.2.2.2, HO1, rfl, HG1, hs1⟩
      case round =>
        obtain ⟨D, R, us, vs2, ns, j, hj, rfl, HF, HR, HO, HFO, HG, hsz⟩ := hrel
        have hwr : Below w0.heap.size w0 wr := Below.on HW.out HG.out
        by_cases hlt : j < q
        · obtain ⟨c', k', r', rfl⟩ : ∃ c' k' r', R = .node c' k' r' := by
            cases R with
            | nil =>
              have h1 := HF.out
              have h2 : vs2 = [] := HR.out
              have h3 := HE.out.1
              rw [h1.2.1, h2, List.append_nil] at h3
              omega
            | node c' k' r' => exact ⟨c', k', r', rfl⟩
          obtain ⟨v, vr, rfl, hnode, hrest⟩ := HR.out
          have hok2 := (Fo.ok_cat D (.node c' k' r')).1 (HF.out.1 ▸ HK.out)
          have hl2 : D.cells.length + (k'.cells.length + r'.cells.length + 1) = k.cells.length := by
            rw [HF.out.1, Fo.cells_cat]; simp [Fo.cells]
          have hat : w0.cell? ⟨g, j, none⟩ = some v := by
            rw [HC.out.2.2.2.2.2.1 j (by rw [← HE.out.1]; exact hlt), HF.out.2.1]
            simp [List.getD, HF.out.2.2.1]
          have c5 : wr.cell? ⟨g, j, none⟩ = some v := (hwr.cell (World.block_lt_of_cell? _ _ hat)).trans hat
          have HRC := HIH.out k'.cells.length (by omega) c' k' v Bt w0 wr (Nat.le_refl _) ⟨hok2.2.1, hok2.2.2.1, hok2.2.2.2.1, hok2.2.2.2.2.1, hok2.2.2.2.2.2.1, trivial⟩ ⟨v, [], rfl, hnode, rfl⟩ hwr (HS.out.below HG.out) (by omega)
          obtain ⟨vt, vx, rfl⟩ := hnode.iface
          have HRR : Hid (FoIn w0 Bt r' vr) := hrest
          clear hok2 hl2 hat hwr hnode hrest HIH
          go_wp2_with fail
          refine HRC.mono ?_
          rintro e w3 ⟨v3, rfl, hfo3, hg3⟩
          have hif : ∃ t y, v3 = .iface t y := by
            have h1 := hfo3
            simp only [Fo.subst] at h1
            split at h1
            · split at h1
              · exact FoIn.iface h1
              · exact FoIn.iface h1
            · exact FoIn.iface h1
          obtain ⟨nt, nx, rfl⟩ := hif
          have e0 : w3.cell? ⟨w.heap.size, j, none⟩ = some .nilIface := by
            rw [hg3.cell (p := ⟨w.heap.size, j, none⟩) (show w.heap.size < wr.heap.size by omega), HO.out.cellAt j (by omega), List.getElem?_append_right (by have := HF.out.2.2.2; omega), List.getElem?_replicate, if_pos (by have := HF.out.2.2.2; omega)]
          have e1 : w3.frozen? ⟨w.heap.size, j, none⟩ = false := (hg3.frozen (p := ⟨w.heap.size, j, none⟩) (show w.heap.size < wr.heap.size by omega)).trans (HO.out.frozenAt j)
          have HO3 : Hid (w3.ownsRow w.heap.size 57 1 (.slice (some ⟨w.heap.size, 0, none⟩) q q) q (ns ++ List.replicate (q - j) .nilIface)) := row_below HO.out hg3
          have HN : Hid (k = (D.cat (.node c' k' .nil)).cat r' ∧ vs = (us ++ [Value.iface vt vx]) ++ vr ∧ (us ++ [Value.iface vt vx]).length = j + 1 ∧ (ns ++ [Value.iface nt nx]).length = j + 1) := ⟨by rw [Fo.cat_assoc]; exact HF.out.1, by rw [HF.out.2.1]; simp, by simp [HF.out.2.2.1], by simp [HF.out.2.2.2]⟩
          have HF3 : Hid (FoIn (w3.setCell ⟨w.heap.size, j, none⟩ (.iface nt nx)) (w.heap.size + 1) ((D.cat (.node c' k' .nil)).subst env) (ns ++ [Value.iface nt nx])) := by
            show FoIn _ _ _ _
            rw [Fo.subst_cat]
            exact (FoIn.cat _ _ _ _ (HFO.out.below hg3) (hfo3.mono hsz)).setCell (show w.heap.size < w.heap.size + 1 by omega) _
          have HG3 : Hid (Below w.heap.size w (w3.setCell ⟨w.heap.size, j, none⟩ (.iface nt nx))) := (Below.on HG.out hg3).setCell (p := ⟨w.heap.size, j, none⟩) (Nat.le_refl _) _
          have hsz3 : w.heap.size + 1 ≤ w3.heap.size := Nat.le_trans hsz hg3.size
          clear hg3 hfo3 HRC
          go_wp2_with fail
          go_roundw
          case rel => exact ⟨D.cat (.node c' k' .nil), r', us ++ [Value.iface vt vx], vr, ns ++ [Value.iface nt nx], j + 1, by omega, by go_num, HN, HRR, row_next HO3.out HF.out.2.2.2 hlt _, HF3, HG3, by simpa using hsz3⟩
          case measure => simp [intOf]; omega
        · obtain rfl : j = q := by omega
          obtain rfl : R = .nil := by
            have h1 := FoIn.count _ _ HR.out
            have h2 := HE.out
            rw [HF.out.2.1, List.length_append] at h2
            have h3 := HF.out.2.2.1
            cases R with
            | nil => rfl
            | node a b d => simp [Fo.count] at h1; omega
          have hD : D = k := by have := HF.out.1; rw [Fo.cat_nil] at this; exact this.symm
          subst hD
          have x0 : wr.cell? ⟨b, 0, none⟩ = some (.string str) := by
            rw [HES.out]
            exact (hwr.cell (World.block_lt_of_cell? _ _ HC.out.2.2.1)).trans HC.out.2.2.1
          have hns := HF.out.2.2.2
          have HFIN : Hid (SubOut w env c D (.returned (.iface 112 (.pointer (some ⟨wr.heap.size, 0, none⟩)))) (wr.alloc (Obj.cells #[Value.string str, Value.slice (some ⟨w.heap.size, 0, none⟩) j j] 115))) := by
            have hal : Below wr.heap.size wr (wr.alloc (Obj.cells #[Value.string str, Value.slice (some ⟨w.heap.size, 0, none⟩) j j] 115)) := (Below.refl _ _).alloc (Nat.le_refl _) _
            refine ⟨_, rfl, ?_, Below.on HG.out hal⟩
            have hnew := heap_alloc_new wr (Obj.cells #[Value.string str, Value.slice (some ⟨w.heap.size, 0, none⟩) j j] 115)
            simp only [Fo.subst, if_neg (show ¬ c.1 = 0 by have := H0.out; omega)]
            refine ⟨_, [], rfl, .inr (.inr (.inr ⟨H0.out, wr.heap.size, w.heap.size, ns, rfl, by omega, Nat.le_refl _, by rw [← HES.out]; exact cell_of_row _ _ 0 _ _ _ hnew, by rw [hns]; exact cell_of_row _ _ 1 _ _ _ hnew, by simp; omega, fun i hi => ?_, ?_⟩)), rfl⟩
            · refine Lib.cell?_alloc_marked _ ?_
              rw [HO.out.cellAt i (by omega), List.getElem?_append_left (by omega)]
              simp [List.getD, hi]
            · exact (HFO.out.below hal).mono (by omega)
          clear hns
          go_wp2_with fail
          go_ret
          exact HFIN.out
end Go.Proofs.YtaakpdakeolgeaaGreat

namespace Go.Proofs.YtaakpdakeolgeaaGreat
end Go.Proofs.YtaakpdakeolgeaaGreat

namespace Go.Proofs.YtaakpdakeolgeaaGreat
open Go Go.RowKit
set_option linter.unusedVariables false
def applyR (bs : List Bnd) (cs : List Cel) : List Cel × Int :=
  if substB bs = true ∧ validB cs = true then (if (applyC bs cs).length ≤ 2000 then (applyC bs cs, 0) else ([], 3)) else ([], 1)
def ApplyOut (w : World) (bs : List Bnd) (cs : List Cel) (e : Ending) (w' : World) : Prop :=
  ∃ q m c2, e = .returned (.tuple #[.slice q m c2, .int .i64 (applyR bs cs).2]) ∧ OwnC w' w.heap.size q m c2 (applyR bs cs).1 ∧ Below w.heap.size w w'
def CapBd (w : World) (p : Option Addr) (bs : List Bnd) : Prop := ∀ b o, p = some ⟨b, o, none⟩ → ∀ i, i < bs.length → ∃ q cp, w.cell? ⟨b, o + i * 2 + 1, none⟩ = some (.slice q (bs.getD i Bnd.zero).2.length cp) ∧ (bs.getD i Bnd.zero).2.length ≤ cp ∧ cp ≤ 9223372036854775807
theorem CapBd.below {w w' : World} {p : Option Addr} {bs : List Bnd} (h : CapBd w p bs) (hb : Below w.heap.size w w') : CapBd w' p bs := fun b o hp i hi => by
  obtain ⟨q, cp, h1, h2⟩ := h b o hp i hi
  exact ⟨q, cp, (hb.cell (World.block_lt_of_cell? _ _ h1)).trans h1, h2⟩
theorem TightBd.cap {w : World} {p : Option Addr} {bs : List Bnd} (h : TightBd w p bs) (hl : ∀ i, i < bs.length → (bs.getD i Bnd.zero).2.length ≤ 9223372036854775807) : CapBd w p bs := fun b o hp i hi => by
  obtain ⟨q, h1⟩ := h b o hp i hi
  exact ⟨q, _, h1, Nat.le_refl _, hl i hi⟩
structure MSt (w wr : World) (bs : List Bnd) (pb mb k : Nat) : Prop where
  low : Below w.heap.size w wr
  cell : wr.cell? ⟨pb, 0, none⟩ = some (.map (some mb))
  map : ∃ E, VMap wr mb k E ∧ BE w (bs.take k) E
  hb : w.heap.size ≤ mb
theorem subst_node (env : Env) (c : Cel) (k : Fo) : ∃ c' k', (Fo.node c k .nil).subst env = .node c' k' .nil := by
  simp only [Fo.subst]
  split
  · split
    · exact ⟨_, _, rfl⟩
    · exact ⟨_, _, rfl⟩
  · exact ⟨_, _, rfl⟩
theorem look_take {bs : List Bnd} (hup : ∀ i j, i < j → j < bs.length → (bs.getD i Bnd.zero).1 < (bs.getD j Bnd.zero).1) (k : Nat) (hk : k < bs.length) : (bs.getD k Bnd.zero).1 ∉ (bs.take k).map Prod.fst := fun h => by
  obtain ⟨b, hb, e⟩ := List.mem_map.1 h
  obtain ⟨i, hi, e2⟩ := List.getElem_of_mem hb
  have hi' : i < k := by simp at hi; omega
  have := hup i k hi' hk
  have e3 : bs.getD i Bnd.zero = b := by
    rw [← e2]
    simp [List.getD, show i < bs.length by omega]
  rw [e3, e] at this
  omega
theorem ok_bytes {bs : List Bnd} (h : ∀ i, i < bs.length → ∀ j, j < (bs.getD i Bnd.zero).2.length → Byte ((bs.getD i Bnd.zero).2.getD j Cel.none).2.2) : ∀ b ∈ bs, ∀ j, j < b.2.length → Byte (b.2.getD j Cel.none).2.2 := fun b hb j hj => by
  obtain ⟨i, hi, e⟩ := List.getElem_of_mem hb
  have := h i hi j
  rw [List.getD, List.getElem?_eq_getElem hi, Option.getD_some, e] at this
  exact this hj
set_option maxRecDepth 100000 in
set_option maxHeartbeats 2000000 in
theorem implApplyC_any (bs : List Bnd) (cs : List Cel) (p q : Option Addr) (n m cb cm : Nat) (hcm : m ≤ cm ∧ cm ≤ 9223372036854775807) (w : World) (hn : n = bs.length) (hm : m = cs.length) (hbb : ∀ i, i < bs.length → ∀ j, j < (bs.getD i Bnd.zero).2.length → Byte ((bs.getD i Bnd.zero).2.getD j Cel.none).2.2) (hcb : ∀ i, i < cs.length → Byte (cs.getD i Cel.none).2.2)
    (hl : bs.length + tll (trm bs) ≤ 300000000) (hlc : cs.length ≤ 1048576) (hb : BdIn w p bs) (hti : CapBd w p bs) (hc : CIn w q cs) :
    Calls Tryz.prog 7 #[.slice p n cb, .slice q m cm] w (ApplyOut w bs cs) := by
  have HV1 := implSubst_any p n cb bs w hn (by omega) hl hb
  have HV2 : Hid (∀ W, Below w.heap.size w W → Calls Tryz.prog 25 #[.slice q m cm] W fun e w' => e = .returned (.bool (validB cs)) ∧ Below W.heap.size W w') := fun W hW => by rw [hm]; exact implValid_any q cm cs W (by omega) (hc.below hW)
  by_cases h1 : substB bs = true
  · rw [h1] at HV1
    by_cases h2 : validB cs = true
    · rw [h2] at HV2
      obtain ⟨env, henv⟩ := env_of bs (-1) (by simp only [substB, Bool.and_eq_true] at h1; exact h1.2) (ok_bytes hbb)
      have hup := substFrom_up bs (-1) (by simp only [substB, Bool.and_eq_true] at h1; exact h1.2)
      have hmem := substFrom_mem bs (-1) (by simp only [substB, Bool.and_eq_true] at h1; exact h1.2)
      have hlen1 : n ≤ 1000 := by simp only [substB, Bool.and_eq_true, decide_eq_true_eq] at h1; omega
      obtain ⟨c, k, ec, hok, hlk⟩ := tree_of hcb h2
      have hR : applyR bs cs = if (applyC bs cs).length ≤ 2000 then (applyC bs cs, 0) else ([], 3) := by rw [applyR, if_pos ⟨h1, h2⟩]
      have HR : Hid (applyR bs cs = if (applyC bs cs).length ≤ 2000 then (applyC bs cs, 0) else ([], 3)) := hR
      have HENV : Hid (EnvOf bs env) := henv
      have HUP : Hid _ := hup
      have HMEM : Hid _ := hmem
      have HBD : Hid (BdIn w p bs ∧ CapBd w p bs) := ⟨hb, hti⟩
      have HN : Hid (n = bs.length) := hn
      have HT : Hid (∀ W, Below w.heap.size w W → Calls Tryz.prog 27 #[.slice q m cm] W fun e w' => ∃ v, e = .returned v ∧ FoIn w' W.heap.size (.node c k .nil) [v] ∧ Below W.heap.size W w') := fun W hW => termOf_any c k q m cm W hok (by rw [hm, ec]; simp) hcm.1 hcm.2 (by have := hc.below hW; rwa [ec] at this)
      have HOK : Hid ((Fo.node c k .nil).ok ∧ cs = c :: k.cells ∧ k.cells.length ≤ 2000) := ⟨hok, ec, by rw [ec] at hlk; simp at hlk; omega⟩
      have hmm := @run_makeMap Tryz.prog
      clear h1 h2 hb hc hti henv hup hmem ec hok hlk hR hn hm hbb hcb
      go_enter Tryz.func7, Tryz.ntmps7
      go_wp2_with fail
      refine HV1.mono ?_
      rintro e w1 ⟨rfl, hb1⟩
      have HB1 : Hid (Below w.heap.size w w1) := hb1
      clear hb1 HV1
      go_wp2_with fail
      refine (HV2.out w1 HB1.out).mono ?_
      rintro e w2 ⟨rfl, hb2⟩
      have HB2 : Hid (Below w.heap.size w w2) := Below.on HB1.out hb2
      clear hb2
      go_wp2_with fail
      have HM0 : Hid (MSt w ((w2.alloc (Obj.map #[] 0)).alloc (Obj.cells #[Value.map (some w2.heap.size)] 62)) bs (w2.heap.size + 1) w2.heap.size 0) := by
        have hk := heap_alloc_new (w2.alloc (Obj.map #[] 0)) (Obj.cells #[Value.map (some w2.heap.size)] 62)
        rw [World.size_alloc] at hk
        exact ⟨(HB2.out.alloc HB2.out.size _).alloc (HB2.out.alloc HB2.out.size _).size _, cell_of_row _ _ 0 _ _ _ hk, ⟨[], (VMap.made w2).below ((Below.refl _ _).alloc (Nat.le_refl _) _), rfl⟩, HB2.out.size⟩
      obtain ⟨mb, emb⟩ : ∃ mb, mb = w2.heap.size := ⟨_, rfl⟩
      rw [← emb] at HM0 ⊢
      clear emb
      go_loopw [21] (fun i wr => ∃ (j : Nat), j ≤ n ∧ i = .int .i64 j ∧ wr.cell? ⟨mb + 1, 0, none⟩ = some (.map (some mb)) ∧ Hid (MSt w wr bs (mb + 1) mb j)) (fun i _ => n - (intOf i).toNat)
      case atStart => exact ⟨0, Nat.zero_le _, rfl, HM0.out.cell, HM0⟩
      case round =>
        obtain ⟨j, hj, rfl, hcell, HM⟩ := hrel
        by_cases hlt : j < n
        · have hjl : j < bs.length := by rw [← HN.out]; exact hlt
          obtain ⟨b, o, rfl, hcs⟩ := (HBD.out.1.below HM.out.low) (by omega)
          obtain ⟨q1, c1, d0, d1, d2⟩ := hcs j hjl
          obtain ⟨q2, cp, d1', hcp1, hcp2⟩ := (HBD.out.2.below HM.out.low) b o rfl j hjl
          have hqq : q1 = q2 ∧ c1 = cp := by rw [d1] at d1'; cases d1'; exact ⟨rfl, rfl⟩
          obtain ⟨rfl, rfl⟩ := hqq
          obtain ⟨b0, o0, e0, hcs0⟩ := HBD.out.1 (by omega)
          have hcin : CIn w q1 (bs.getD j Bnd.zero).2 := by
            cases e0
            obtain ⟨q3, c3, _, f1, f2⟩ := hcs0 j hjl
            have := (HM.out.low.cell (World.block_lt_of_cell? _ _ f1)).trans f1
            rw [this] at d1
            cases d1
            exact f2
          obtain ⟨E, hvm, hbe⟩ := HM.out.map
          have hmemj := HMEM.out (bs.getD j Bnd.zero) (by simp [List.getD, hjl])
          obtain ⟨w4, hrun, hvm4, hg4⟩ := (hvm.below ((Below.refl wr.heap.size wr).alloc (Nat.le_refl _) (.cells #[.int .i64 (bs.getD j Bnd.zero).1, .slice q1 (bs.getD j Bnd.zero).2.length c1] 33))).put (t := 62) Tryz.underlying62 (by omega) (bs.getD j Bnd.zero).1 (by omega) hmemj.2.1 (.slice q1 (bs.getD j Bnd.zero).2.length c1)
          have hnone : look E (bs.getD j Bnd.zero).1 = none := (look_none E _).2 (by rw [BE.keys _ _ hbe]; exact look_take HUP.out j hjl)
          rw [putE_new _ hnone] at hvm4
          have htk : bs.take (j + 1) = bs.take j ++ [bs.getD j Bnd.zero] := by rw [List.take_succ_eq_append_getElem hjl]; simp [List.getD, hjl]
          have hpbl : mb + 1 < wr.heap.size := World.block_lt_of_cell? _ _ hcell
          have HM4 : Hid (MSt w w4 bs (mb + 1) mb (j + 1)) := by
            have hlow := HM.out.low.alloc HM.out.low.size (.cells #[.int .i64 (bs.getD j Bnd.zero).1, .slice q1 (bs.getD j Bnd.zero).2.length c1] 33)
            refine ⟨hlow.grown hg4 hlow.size (fun k e => by cases e; exact HM.out.hb), ?_, ⟨_, hvm4, by rw [htk]; exact BE.snoc ⟨hcp1, hcp2, hcin⟩ _ _ hbe⟩, HM.out.hb⟩
            rw [World.cell?_of_block (a := ⟨mb + 1, 0, none⟩) (hg4.block (mb + 1) (by simp; omega) (fun e => by have := Option.some.inj e; omega))]
            exact Lib.cell?_alloc_marked _ hcell
          have hcell2 : (wr.alloc (.cells #[.int .i64 (bs.getD j Bnd.zero).1, .slice q1 (bs.getD j Bnd.zero).2.length c1] 33)).cell? ⟨mb + 1, 0, none⟩ = some (.map (some mb)) := Lib.cell?_alloc_marked _ hcell
          obtain ⟨L, eL⟩ : ∃ L, L = (bs.getD j Bnd.zero).2.length := ⟨_, rfl⟩
          obtain ⟨vv, evv⟩ : ∃ L, L = (bs.getD j Bnd.zero).1 := ⟨_, rfl⟩
          rw [← eL] at d1 hrun hcell2
          rw [← evv] at d0 hrun hcell2
          clear hcp1 hcp2 e0 hcs hcs0 d1' d2 hvm hbe hmemj hvm4 hg4 hnone htk hcin eL evv
          go_wp2_with fail
          go_roundw
          case rel => exact ⟨j + 1, by omega, by go_num, HM4.out.cell, HM4⟩
          case measure => simp [intOf]; omega
        · obtain rfl : j = n := by omega
          have HAS : Hid (ASt w bs (mb + 1) mb wr) := by
            obtain ⟨E, h1, h2⟩ := HM.out.map
            rw [List.take_of_length_le (by rw [← HN.out]; exact Nat.le_refl _)] at h2
            exact ⟨HM.out.low, HM.out.cell, ⟨_, E, h1, h2⟩⟩
          go_wp2_with fail
          refine (HT.out wr HAS.out.low).mono ?_
          rintro e w5 ⟨v5, rfl, hf5, hb5⟩
          have HAS5 : Hid (ASt w bs (mb + 1) mb w5) := HAS.out.below hb5
          have HF5 : Hid (FoIn w5 wr.heap.size (.node c k .nil) [v5]) := hf5
          have HZ := sizeWith_any w bs env HENV.out (mb + 1) mb c k v5 wr.heap.size w5 HOK.out.1 hf5 HOK.out.2.2 HAS5.out
          have hsz := szC_len HENV.out (c :: k.cells)
          rw [hsz] at HZ
          have HCE : Hid (applyC bs (c :: k.cells) = applyC bs cs) := by show _ = _; rw [HOK.out.2.1]
          rw [HCE.out] at HZ
          obtain ⟨t5, y5, rfl⟩ := hf5.iface
          clear hf5 hb5 hsz hcell
          by_cases hlim : (applyC bs cs).length ≤ 2000
          · have hmin : min (applyC bs cs).length 2001 = (applyC bs cs).length := by omega
            rw [hmin] at HZ
            have HRR : Hid (applyR bs cs = (applyC bs cs, 0)) := by show _ = _; rw [HR.out, if_pos hlim]
            obtain ⟨z, ez⟩ : ∃ z, z = (applyC bs cs).length := ⟨_, rfl⟩
            have HEZ : Hid (z = (applyC bs cs).length) := ez
            rw [← ez] at HZ hlim
            clear hmin ez
            go_wp2_with fail
            refine HZ.mono ?_
            rintro e w6 ⟨rfl, hb6⟩
            have HAS6 : Hid (ASt w bs (mb + 1) mb w6) := HAS5.out.below hb6
            have HRP := replaceS_any w bs env HENV.out (mb + 1) mb k.cells.length c k (.iface t5 y5) wr.heap.size w5 w6 (Nat.le_refl _) HOK.out.1 HF5.out hb6 HAS6.out (by have := HOK.out.2.2; omega)
            clear hb6 HZ
            go_wp2_with fail
            refine HRP.mono ?_
            rintro e w7 ⟨v7, rfl, hf7, hb7⟩
            obtain ⟨c', k', hsn⟩ := subst_node env c k
            have hcell := Fo.cells_subst HENV.out (.node c k .nil) HOK.out.1
            have hok7 := Fo.ok_subst (fun y hy => (HENV.out.2 y hy).1) (.node c k .nil) HOK.out.1
            rw [hsn] at hf7 hcell hok7
            have hcc : c' :: k'.cells = applyC bs cs := by
              have h2 : (Fo.node c k .nil).cells = c :: k.cells := by simp [Fo.cells]
              rw [h2, HCE.out] at hcell
              rw [← hcell]; simp [Fo.cells]
            have HCO := cellsOf_any c' k' v7 w6.heap.size w7 hok7 hf7 (by have h3 := congrArg List.length hcc; have h4 := HEZ.out; rw [List.length_cons] at h3; omega)
            rw [hcc] at HCO
            have HB7 : Hid (Below w.heap.size w w7) := Below.on HAS6.out.low hb7
            obtain ⟨t7, y7, rfl⟩ := hf7.iface
            clear hf7 hb7 hsn hcell hok7 hcc HRP
            go_wp2_with fail
            refine HCO.mono ?_
            rintro e w8 ⟨p8, n8, c8, rfl, ho8, hb8⟩
            have HFIN : Hid (ApplyOut w bs cs (.returned (.tuple #[.slice p8 n8 c8, .int .i64 0])) w8) := by
              unfold ApplyOut Hid
              rw [HRR.out]
              exact ⟨p8, n8, c8, rfl, ho8.mono HB7.out.size, Below.on HB7.out hb8⟩
            clear ho8 hb8 HCO
            go_wp2_with fail
            go_ret2
            exact HFIN.out
          · have hmin : min (applyC bs cs).length 2001 = 2001 := by omega
            rw [hmin] at HZ
            have HRR : Hid (applyR bs cs = ([], 3)) := by show _ = _; rw [HR.out, if_neg hlim]
            clear hmin hlim
            go_wp2_with fail
            refine HZ.mono ?_
            rintro e w6 ⟨rfl, hb6⟩
            have HFIN : Hid (ApplyOut w bs cs (.returned (.tuple #[.slice none 0 0, .int .i64 3])) w6) := by
              unfold ApplyOut Hid
              rw [HRR.out]
              exact ⟨_, _, _, rfl, OwnC.nil _ _, Below.on HAS5.out.low hb6⟩
            clear hb6 HZ
            go_wp2_with fail
            go_ret2
            exact HFIN.out
    · have h2' : validB cs = false := by simpa using h2
      rw [h2'] at HV2
      have HFIN : Hid (∀ w', Below w.heap.size w w' → ApplyOut w bs cs (.returned (.tuple #[.slice none 0 0, .int .i64 1])) w') := fun w' hb => by
        unfold ApplyOut
        rw [applyR, if_neg (fun h => h2 h.2)]
        exact ⟨_, _, _, rfl, OwnC.nil _ _, hb⟩
      clear h1 h2 h2' hb hc hti hn hm hbb hcb
      go_enter Tryz.func7, Tryz.ntmps7
      go_wp2_with fail
      refine HV1.mono ?_
      rintro e w1 ⟨rfl, hb1⟩
      have HB1 : Hid (Below w.heap.size w w1) := hb1
      clear hb1 HV1
      go_wp2_with fail
      refine (HV2.out w1 HB1.out).mono ?_
      rintro e w2 ⟨rfl, hb2⟩
      have HB2 : Hid (Below w.heap.size w w2) := Below.on HB1.out hb2
      clear hb2
      go_wp2_with fail
      go_ret2
      exact HFIN.out _ HB2.out
  · have h1' : substB bs = false := by simpa using h1
    rw [h1'] at HV1
    have HFIN : Hid (∀ w', Below w.heap.size w w' → ApplyOut w bs cs (.returned (.tuple #[.slice none 0 0, .int .i64 1])) w') := fun w' hb => by
      unfold ApplyOut
      rw [applyR, if_neg (fun h => h1 h.1)]
      exact ⟨_, _, _, rfl, OwnC.nil _ _, hb⟩
    clear h1 h1' hb hc hti hn hm hbb hcb
    go_enter Tryz.func7, Tryz.ntmps7
    go_wp2_with fail
    refine HV1.mono ?_
    rintro e w1 ⟨rfl, hb1⟩
    go_wp2_with fail
    go_ret2
    exact HFIN.out _ hb1
end Go.Proofs.YtaakpdakeolgeaaGreat

namespace Go.Proofs.YtaakpdakeolgeaaGreat
open Go
section
variable {P : Program} {ops : Array Oper} {Q : Exit → Act → World → Prop} {md : Region.Mode} {S : World → Prop}
theorem hTake {i : Nat} {v : Value} {fuel : Nat} {listed : Array Bool} {a : Act} {w : World} (d : Option Tmp) (hd : (ops[i]?).map (·.dst) = some d)
    (hs : Region.noSelect ops = true) (hf : Region.free md ops listed i = true) (hr : (Region.ready md ops listed).contains i = true) (hw : (ops[i]?).map (fun o => Region.wanted o (yielded ops a.tmps)) = some true)
    (hQ : ∀ c a w, Q (.panic c) (a.put d v) w → Q (.panic c) a w) (hrun : ∀ o, ops[i]? = some o → ∀ w, S w → (execOp a.eval o).run P w = .ok (.value v) w) (hS : S w)
    (h : wpAnyH P md ops Q S fuel (listed.setIfInBounds i true) (a.put d v) w) : wpAnyH P md ops Q S (fuel + 1) listed a w := by
  cases hi : ops[i]? with
  | none => simp [hi] at hd
  | some o =>
    have hd' : o.dst = d := by simpa [hi] using hd
    have hw' : Region.wanted o (yielded ops a.tmps) = true := by simpa [hi] using hw
    subst hd'
    exact wpAnyH_take hi hs hf hr hQ (.inl ⟨hw', hrun o hi⟩) hS h
theorem hSkip {i : Nat} {fuel : Nat} {listed : Array Bool} {a : Act} {w : World} (d : Option Tmp) (hd : (ops[i]?).map (·.dst) = some d)
    (hs : Region.noSelect ops = true) (hf : Region.free md ops listed i = true) (hr : (Region.ready md ops listed).contains i = true) (hw : (ops[i]?).map (fun o => Region.wanted o (yielded ops a.tmps)) = some false)
    (hQ : ∀ c a w, Q (.panic c) (a.put d undef) w → Q (.panic c) a w) (hS : S w)
    (h : wpAnyH P md ops Q S fuel (listed.setIfInBounds i true) (a.put d undef) w) : wpAnyH P md ops Q S (fuel + 1) listed a w := by
  cases hi : ops[i]? with
  | none => simp [hi] at hd
  | some o =>
    have hd' : o.dst = d := by simpa [hi] using hd
    have hw' : Region.wanted o (yielded ops a.tmps) = false := by simpa [hi] using hw
    subst hd'
    exact wpAnyH_take hi hs hf hr hQ (.inr ⟨hw', rfl⟩) hS h
theorem hCall {i : Nat} {f : FuncId} {args : Array Value} {v : Value} {T : World → Prop} {fuel : Nat} {listed : Array Bool} {a : Act} {w : World} (d : Option Tmp) (hd : (ops[i]?).map (·.dst) = some d)
    (hr : Region.ready md ops listed = [i]) (hw : (ops[i]?).map (fun o => Region.wanted o (yielded ops a.tmps)) = some true)
    (hrun : ∀ o, ops[i]? = some o → (execOp a.eval o).run P w = .ok (.enter f args) w) (hC : Calls P f args w fun e w' => e = .returned v ∧ T w')
    (hK : ∀ w', T w' → S w' ∧ wpAnyH P md ops Q S fuel (listed.setIfInBounds i true) (a.put d v) w') : wpAnyH P md ops Q S (fuel + 1) listed a w := by
  refine wpAnyH_all hr (by simp) ?_
  intro j hj
  obtain rfl : j = i := by simpa using hj
  cases hi : ops[j]? with
  | none => simp [hi] at hd
  | some o =>
    have hd' : o.dst = d := by simpa [hi] using hd
    have hw' : Region.wanted o (yielded ops a.tmps) = true := by simpa [hi] using hw
    subst hd'
    unfold wpOp
    simp only [hi, hw', if_true, Oper.wp, hrun o hi, Oper.upon]
    refine .inl (hC.mono fun e w'' he => ?_)
    obtain ⟨rfl, ht⟩ := he
    exact hK _ ht
end
end Go.Proofs.YtaakpdakeolgeaaGreat

