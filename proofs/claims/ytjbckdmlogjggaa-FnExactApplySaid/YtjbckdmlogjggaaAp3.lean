/- sizeWith; replaceVars with what is bound. Own work of the verifier. -/
import Derived.Test.YtjbckdmlogjggaaAp2
namespace Go.Proofs.Ytjbckdmlogjggaa
open Go Go.RowKit
set_option linter.unusedVariables false

set_option maxRecDepth 100000 in
theorem sizeWith_any (wa : World) (bs : List Bnd) (env : Env) (henv : EnvOf bs env) (pb mb : Nat) (c : Cel) (k : Fo) (v : Value) (Bt : Nat) (w : World) (hok : (Fo.node c k .nil).ok) (hfo : FoIn w Bt (.node c k .nil) [v]) (hk : k.cells.length ≤ 2000) (hs : ASt wa bs pb mb w) :
    Calls Try.prog 44 #[v, .func (.func 45) #[] #[.pointer (some ⟨pb, 0, none⟩)]] w fun e w' => e = .returned (.int .i64 ((min (szC bs (c :: k.cells)) 2001 : Nat) : Int)) ∧ Below w.heap.size w w' := by
  have HBX : Hid (Below w.heap.size w ((w.alloc (.cells #[.func (.func 45) #[] #[.pointer (some ⟨pb, 0, none⟩)]] 69)).alloc (.cells #[.int .i64 0] 3))) := ((Below.refl _ _).alloc (Nat.le_refl _) _).alloc (by simp) _
  have hpb : pb < w.heap.size := World.block_lt_of_cell? _ _ hs.cell
  have k0 : ((w.alloc (.cells #[.func (.func 45) #[] #[.pointer (some ⟨pb, 0, none⟩)]] 69)).alloc (.cells #[.int .i64 0] 3)).heap[w.heap.size]? = some (.cells #[.func (.func 45) #[] #[.pointer (some ⟨pb, 0, none⟩)]] 69) := (Below.heap_alloc _ _ _ (by simp)).trans (heap_alloc_new _ _)
  have k1 : ((w.alloc (.cells #[.func (.func 45) #[] #[.pointer (some ⟨pb, 0, none⟩)]] 69)).alloc (.cells #[.int .i64 0] 3)).heap[w.heap.size + 1]? = some (.cells #[.int .i64 0] 3) := by
    have := heap_alloc_new (w.alloc (.cells #[.func (.func 45) #[] #[.pointer (some ⟨pb, 0, none⟩)]] 69)) (.cells #[.int .i64 0] 3)
    rwa [World.size_alloc] at this
  have HS : Hid (SzS wa bs pb mb (w.heap.size + 1) w.heap.size 0 ((w.alloc (.cells #[.func (.func 45) #[] #[.pointer (some ⟨pb, 0, none⟩)]] 69)).alloc (.cells #[.int .i64 0] 3))) :=
    ⟨cell_of_row _ _ 0 _ _ _ k1, frozen_of_row _ _ 0 _ _ k1, cell_of_row _ _ 0 _ _ _ k0, hs.below HBX.out, by omega, by omega, by have := hs.low.size; omega⟩
  have HW := sizeWalk_any wa bs env henv pb mb (w.heap.size + 1) w.heap.size k.cells.length c k v Bt (w.heap.size + 1) 0 w _ (Nat.le_refl _) hok hfo HBX.out (by omega) (by simp) (Nat.le_refl _) HS.out (by omega)
  have hsb := szC_bound henv (c :: k.cells)
  obtain ⟨t, y, rfl⟩ := hfo.iface
  rw [Nat.zero_add] at HW
  obtain ⟨z, ez⟩ : ∃ z, z = szC bs (c :: k.cells) := ⟨_, rfl⟩
  rw [← ez] at HW hsb ⊢
  have hzb : z ≤ 100000000 := by simp at hsb; omega
  clear hok hfo hs k0 k1 HS hsb ez
  go_enter Try.func44, Try.ntmps44
  go_wp2_with fail
  refine HW.mono ?_
  rintro e w2 ⟨rfl, hst, hb⟩
  have hc := hst.cnt
  have HB2 : Hid (Below w.heap.size w w2) := HBX.out.trans (hb.mono (by omega))
  clear hst hb HW
  go_wp2_with fail
  all_goals (go_ret; exact ⟨ret_int (by omega), HB2.out⟩)

/-- What replaceVars answers. -/
def SubOut (w : World) (env : Env) (c : Cel) (k : Fo) (e : Ending) (w' : World) : Prop :=
  ∃ v, e = .returned v ∧ FoIn w' w.heap.size ((Fo.node c k .nil).subst env) [v] ∧ Below w.heap.size w w'
set_option maxRecDepth 100000 in
theorem put2_any (w0 : World) (bs : List Bnd) (env : Env) (henv : EnvOf bs env) (pb mb : Nat) (c : Cel) (w : World) (hc : c.1 = 0) (h0 : 0 ≤ c.2.1) (h1 : c.2.1 ≤ 1000000) (hs : ASt w0 bs pb mb w) :
    Calls Try.prog 48 #[.int .i64 c.2.1, .pointer (some ⟨pb, 0, none⟩)] w (SubOut w env c .nil) := by
  obtain ⟨N, E, hm, he⟩ := hs.map
  have hcell := hs.cell
  have hl := hm.look (t := 66) Try.underlying66 (zeroCells w) c.2.1 h0 h1
  have hk := BE.look _ _ he c.2.1
  have hlk : look bs c.2.1 = (look env c.2.1).map (fun t => t.1 :: t.2.cells) := by rw [henv.1, look_env]
  cases hx : look env c.2.1 with
  | none =>
    rw [hx] at hlk
    rw [hk.2 hlk] at hl
    simp only [Option.isSome_none] at hl
    have HF : Hid (SubOut w env c .nil (.returned (.iface 67 (.int .i64 c.2.1))) w) := ⟨_, rfl, by simp only [Fo.subst, if_pos hc, hx]; exact ⟨_, [], rfl, .inl ⟨hc, rfl⟩, rfl⟩, Below.refl _ _⟩
    obtain ⟨x, ex⟩ : ∃ x, x = c.2.1 := ⟨_, rfl⟩
    rw [← ex] at hl HF ⊢
    clear hk hx hlk hs hm he ex
    go_enter Try.func48, Try.ntmps48
    go_wp2
    go_ret
    exact HF.out
  | some t =>
    rw [hx] at hlk
    obtain ⟨q, hq, hin⟩ := hk.1 _ hlk
    rw [hq] at hl
    simp only [Option.isSome_some] at hl
    have ht : t.ok ∧ (t.1 :: t.2.cells).length ≤ 2000 := henv.2 _ (look_mem hx)
    have HT := termOf_any t.1 t.2 q (t.1 :: t.2.cells).length (t.1 :: t.2.cells).length w ht.1 (by simp) (Nat.le_refl _) (by have := ht.2; omega) (hin.below hs.low)
    have HF : Hid (∀ v w', FoIn w' w.heap.size (.node t.1 t.2 .nil) [v] → Below w.heap.size w w' → SubOut w env c .nil (.returned v) w') := fun v w' h1 h2 => ⟨v, rfl, by simp only [Fo.subst, if_pos hc, hx]; exact h1, h2⟩
    obtain ⟨x, ex⟩ : ∃ x, x = c.2.1 := ⟨_, rfl⟩
    obtain ⟨m, em⟩ : ∃ m, m = (t.1 :: t.2.cells).length := ⟨_, rfl⟩
    rw [← em] at hl HT
    rw [← ex] at hl ⊢
    clear hk hx hlk hs hm he ex em ht hq hin
    go_enter Try.func48, Try.ntmps48
    go_wp2_with fail
    refine HT.mono ?_
    rintro e w1 ⟨v, rfl, hf1, hb1⟩
    have HF1 : Hid _ := HF.out v w1 hf1 hb1
    obtain ⟨tv, xv, rfl⟩ := hf1.iface
    clear hf1 hb1 HT
    go_wp2_with fail
    go_ret
    exact HF1.out

set_option maxRecDepth 100000 in
set_option maxHeartbeats 1000000 in
theorem replaceS_any (wa : World) (bs : List Bnd) (env : Env) (henv : EnvOf bs env) (pb mb : Nat) : ∀ (N : Nat) (c : Cel) (k : Fo) (v : Value) (Bt : Nat) (w0 w : World), k.cells.length ≤ N → (Fo.node c k .nil).ok → FoIn w0 Bt (.node c k .nil) [v] → Below w0.heap.size w0 w → ASt wa bs pb mb w → k.cells.length ≤ 100000 →
    Calls Try.prog 47 #[v, .func (.func 48) #[] #[.pointer (some ⟨pb, 0, none⟩)]] w (SubOut w env c k) := by
  intro N
  induction N using Nat.strongRecOn with
  | _ N ih =>
    intro c k v Bt w0 w hN hok hfo hw hs hlen
    obtain ⟨v', vr, e, hnode, _⟩ := hfo
    obtain ⟨rfl, rfl⟩ := List.cons.inj e
    rcases hnode with ⟨h0, rfl⟩ | ⟨h0, rfl⟩ | ⟨h0, rfl⟩ | ⟨h0, b, g, vs, rfl, hcomp⟩
    · have hk : k = .nil := hok.2.2.2.1 (by rw [h0]; decide)
      subst hk
      have hx : 0 ≤ c.2.1 ∧ c.2.1 ≤ 1000000 := by have := hok.1; rw [h0] at this; simp [cellB] at this; omega
      have HW := put2_any wa bs env henv pb mb c w h0 hx.1 hx.2 hs
      obtain ⟨x, ex⟩ : ∃ x, x = c.2.1 := ⟨_, rfl⟩
      rw [← ex] at HW ⊢
      have n1 := isVar
      clear ih hok hw hs hx ex e hlen
      go_enter Try.func47, Try.ntmps47
      go_wp2_with fail
      refine HW.mono ?_
      rintro e w1 ⟨v1, rfl, h1, h2⟩
      have HF : Hid (SubOut w env c .nil (.returned v1) w1) := ⟨v1, rfl, h1, h2⟩
      have hif : ∃ t y, v1 = .iface t y := by
        simp only [Fo.subst, if_pos h0] at h1
        split at h1
        · exact FoIn.iface h1
        · exact FoIn.iface h1
      obtain ⟨t1, y1, rfl⟩ := hif
      clear h1 h2 HW
      go_wp2_with fail
      go_ret
      exact HF.out
    · have hk : k = .nil := hok.2.2.2.1 (by rw [h0]; decide)
      subst hk
      have n1 := noVar_num
      have n2 := noComp_num
      have HF : Hid (SubOut w env c .nil (.returned (.iface 138 (.int .i64 c.2.1))) w) := ⟨_, rfl, by simp only [Fo.subst, if_neg (show ¬ c.1 = 0 by omega)]; exact ⟨_, [], rfl, .inr (.inl ⟨h0, rfl⟩), rfl⟩, Below.refl _ _⟩
      obtain ⟨x, ex⟩ : ∃ x, x = Value.int .i64 c.2.1 := ⟨_, rfl⟩
      rw [← ex] at HF ⊢
      clear ih hok hw hs ex e hlen
      go_enter Try.func47, Try.ntmps47
      go_wp2_with fail
      go_ret
      exact HF.out
    · have hk : k = .nil := hok.2.2.2.1 (by rw [h0]; decide)
      subst hk
      have n1 := noVar_atom
      have n2 := noComp_atom
      have HF : Hid (SubOut w env c .nil (.returned (.iface 139 (.string (strOfNums c.2.2)))) w) := ⟨_, rfl, by simp only [Fo.subst, if_neg (show ¬ c.1 = 0 by omega)]; exact ⟨_, [], rfl, .inr (.inr (.inl ⟨h0, rfl⟩)), rfl⟩, Below.refl _ _⟩
      obtain ⟨x, ex⟩ : ∃ x, x = Value.string (strOfNums c.2.2) := ⟨_, rfl⟩
      rw [← ex] at HF ⊢
      clear ih hok hw hs ex e hlen
      go_enter Try.func47, Try.ntmps47
      go_wp2_with fail
      go_ret
      exact HF.out
    · have n1 := noVar_comp
      have n2 := isComp
      have HC : Hid (CompAt w0 Bt c.2.2 k b g vs) := hcomp
      have hvl2 : vs.length = k.count := FoIn.count _ _ hcomp.2.2.2.2.2.2
      obtain ⟨q, eq⟩ : ∃ q, q = vs.length := ⟨_, rfl⟩
      have HE : Hid (q = vs.length ∧ vs.length = k.count) := ⟨eq, hvl2⟩
      have hq : q ≤ 100000 := by have := Fo.count_le k; omega
      have HK : Hid k.ok := hok.2.2.2.2.1
      have d0 := (hw.cell (World.block_lt_of_cell? _ _ hcomp.2.2.1)).trans hcomp.2.2.1
      have d1 := (hw.cell (World.block_lt_of_cell? _ _ hcomp.2.2.2.1)).trans hcomp.2.2.2.1
      rw [← eq] at d1
      have HBB : Hid (b < w0.heap.size) := World.block_lt_of_cell? _ _ hcomp.2.2.1
      have HS : Hid (ASt wa bs pb mb w) := hs
      have HW : Hid (Below w0.heap.size w0 w) := hw
      have HIH : Hid _ := ih
      have H0 : Hid (c.1 = 3) := h0
      obtain ⟨str, es⟩ : ∃ str, str = strOfNums c.2.2 := ⟨_, rfl⟩
      rw [← es] at d0
      have HES : Hid (str = strOfNums c.2.2) := es
      obtain ⟨i0, hi, hz0, hz1, hz2⟩ := info_parts infoTerm
      have hmx : q ≤ maxLen := by unfold maxLen; omega
      clear ih hok hw hs e hcomp eq hvl2 es h0
      go_enter Try.func47, Try.ntmps47
      go_wp2_with (at_make; refine wpList_make_full _ rfl _ _ 109 rfl w.heap.size 53 i0 .nilIface 1 Try.underlying109 hi hz0 hz1 _ _ _ _ q rfl rfl rfl rfl (by rw [hz2]; omega) hmx (Nat.le_refl _) ?_; intro w1 hown hgrow; have d0' := ((World.cell?_of_block (w := w) (a := ⟨b, 0, none⟩) (hgrow.block b (World.block_lt_of_cell? _ _ d0) (fun h => by cases h)))).trans d0; have d1' := ((World.cell?_of_block (w := w) (a := ⟨b, 1, none⟩) (hgrow.block b (World.block_lt_of_cell? _ _ d1) (fun h => by cases h)))).trans d1)
      have HO1 : Hid (w1.ownsRow w.heap.size 53 1 (.slice (some ⟨w.heap.size, 0, none⟩) q q) q ([] ++ List.replicate (q - 0) .nilIface)) := by
        have := hown
        simp [Value.cells, toList_madeCells_one] at this
        exact this
      have HG1 : Hid (Below w.heap.size w w1) := (Below.refl _ _).grown hgrow (Nat.le_refl _) (fun k h => by cases h)
      have hs1 : w.heap.size + 1 ≤ w1.heap.size := by have := (hown.lt w.heap.size rfl).2; omega
      clear hown hgrow hi hz0 hz1 hz2 d0 d1 d0' d1'
      go_loopw [31] (fun i wr => ∃ (D R : Fo) (us vs2 ns : List Value) (j : Nat), j ≤ q ∧ i = .int .i64 j ∧ Hid (k = D.cat R ∧ vs = us ++ vs2 ∧ us.length = j ∧ ns.length = j) ∧ Hid (FoIn w0 Bt R vs2) ∧
        Hid (wr.ownsRow w.heap.size 53 1 (.slice (some ⟨w.heap.size, 0, none⟩) q q) q (ns ++ List.replicate (q - j) .nilIface)) ∧ Hid (FoIn wr (w.heap.size + 1) (D.subst env) ns) ∧ Hid (Below w.heap.size w wr) ∧ w.heap.size + 1 ≤ wr.heap.size) (fun i _ => q - (intOf i).toNat)
      case atStart => exact ⟨.nil, k, [], vs, [], 0, Nat.zero_le _, rfl, ⟨rfl, rfl, rfl, rfl⟩, HC.out.2.2.2.2.2.2, HO1, rfl, HG1, hs1⟩
      case round =>
        obtain ⟨D, R, us, vs2, ns, j, hj, rfl, HF, HR, HO, HFO, HG, hsz⟩ := hrel
        have hwr : Below w0.heap.size w0 wr := Below.on HW.out HG.out
        by_cases hlt : j < q
        · obtain ⟨c', k', r', rfl⟩ : ∃ c' k' r', R = .node c' k' r' := by
            cases R with
            | nil =>
              have h1 := HF.out
              have h2 : vs2 = [] := HR.out
              have h3 := HE.out.1
              rw [h1.2.1, h2, List.append_nil] at h3
              omega
            | node c' k' r' => exact ⟨c', k', r', rfl⟩
          obtain ⟨v, vr, rfl, hnode, hrest⟩ := HR.out
          have hok2 := (Fo.ok_cat D (.node c' k' r')).1 (HF.out.1 ▸ HK.out)
          have hl2 : D.cells.length + (k'.cells.length + r'.cells.length + 1) = k.cells.length := by
            rw [HF.out.1, Fo.cells_cat]; simp [Fo.cells]
          have hat : w0.cell? ⟨g, j, none⟩ = some v := by
            rw [HC.out.2.2.2.2.2.1 j (by rw [← HE.out.1]; exact hlt), HF.out.2.1]
            simp [List.getD, HF.out.2.2.1]
          have c5 : wr.cell? ⟨g, j, none⟩ = some v := (hwr.cell (World.block_lt_of_cell? _ _ hat)).trans hat
          have HRC := HIH.out k'.cells.length (by omega) c' k' v Bt w0 wr (Nat.le_refl _) ⟨hok2.2.1, hok2.2.2.1, hok2.2.2.2.1, hok2.2.2.2.2.1, hok2.2.2.2.2.2.1, trivial⟩ ⟨v, [], rfl, hnode, rfl⟩ hwr (HS.out.below HG.out) (by omega)
          obtain ⟨vt, vx, rfl⟩ := hnode.iface
          have HRR : Hid (FoIn w0 Bt r' vr) := hrest
          clear hok2 hl2 hat hwr hnode hrest HIH
          go_wp2_with fail
          refine HRC.mono ?_
          rintro e w3 ⟨v3, rfl, hfo3, hg3⟩
          have hif : ∃ t y, v3 = .iface t y := by
            have h1 := hfo3
            simp only [Fo.subst] at h1
            split at h1
            · split at h1
              · exact FoIn.iface h1
              · exact FoIn.iface h1
            · exact FoIn.iface h1
          obtain ⟨nt, nx, rfl⟩ := hif
          have e0 : w3.cell? ⟨w.heap.size, j, none⟩ = some .nilIface := by
            rw [hg3.cell (p := ⟨w.heap.size, j, none⟩) (show w.heap.size < wr.heap.size by omega), HO.out.cellAt j (by omega), List.getElem?_append_right (by have := HF.out.2.2.2; omega), List.getElem?_replicate, if_pos (by have := HF.out.2.2.2; omega)]
          have e1 : w3.frozen? ⟨w.heap.size, j, none⟩ = false := (hg3.frozen (p := ⟨w.heap.size, j, none⟩) (show w.heap.size < wr.heap.size by omega)).trans (HO.out.frozenAt j)
          have HO3 : Hid (w3.ownsRow w.heap.size 53 1 (.slice (some ⟨w.heap.size, 0, none⟩) q q) q (ns ++ List.replicate (q - j) .nilIface)) := row_below HO.out hg3
          have HN : Hid (k = (D.cat (.node c' k' .nil)).cat r' ∧ vs = (us ++ [Value.iface vt vx]) ++ vr ∧ (us ++ [Value.iface vt vx]).length = j + 1 ∧ (ns ++ [Value.iface nt nx]).length = j + 1) := ⟨by rw [Fo.cat_assoc]; exact HF.out.1, by rw [HF.out.2.1]; simp, by simp [HF.out.2.2.1], by simp [HF.out.2.2.2]⟩
          have HF3 : Hid (FoIn (w3.setCell ⟨w.heap.size, j, none⟩ (.iface nt nx)) (w.heap.size + 1) ((D.cat (.node c' k' .nil)).subst env) (ns ++ [Value.iface nt nx])) := by
            show FoIn _ _ _ _
            rw [Fo.subst_cat]
            exact (FoIn.cat _ _ _ _ (HFO.out.below hg3) (hfo3.mono hsz)).setCell (show w.heap.size < w.heap.size + 1 by omega) _
          have HG3 : Hid (Below w.heap.size w (w3.setCell ⟨w.heap.size, j, none⟩ (.iface nt nx))) := (Below.on HG.out hg3).setCell (p := ⟨w.heap.size, j, none⟩) (Nat.le_refl _) _
          have hsz3 : w.heap.size + 1 ≤ w3.heap.size := Nat.le_trans hsz hg3.size
          clear hg3 hfo3 HRC
          go_wp2_with fail
          go_roundw
          case rel => exact ⟨D.cat (.node c' k' .nil), r', us ++ [Value.iface vt vx], vr, ns ++ [Value.iface nt nx], j + 1, by omega, by go_num, HN, HRR, row_next HO3.out HF.out.2.2.2 hlt _, HF3, HG3, by simpa using hsz3⟩
          case measure => simp [intOf]; omega
        · obtain rfl : j = q := by omega
          obtain rfl : R = .nil := by
            have h1 := FoIn.count _ _ HR.out
            have h2 := HE.out
            rw [HF.out.2.1, List.length_append] at h2
            have h3 := HF.out.2.2.1
            cases R with
            | nil => rfl
            | node a b d => simp [Fo.count] at h1; omega
          have hD : D = k := by have := HF.out.1; rw [Fo.cat_nil] at this; exact this.symm
          subst hD
          have x0 : wr.cell? ⟨b, 0, none⟩ = some (.string str) := by
            rw [HES.out]
            exact (hwr.cell (World.block_lt_of_cell? _ _ HC.out.2.2.1)).trans HC.out.2.2.1
          have hns := HF.out.2.2.2
          have HFIN : Hid (SubOut w env c D (.returned (.iface 108 (.pointer (some ⟨wr.heap.size, 0, none⟩)))) (wr.alloc (Obj.cells #[Value.string str, Value.slice (some ⟨w.heap.size, 0, none⟩) j j] 111))) := by
            have hal : Below wr.heap.size wr (wr.alloc (Obj.cells #[Value.string str, Value.slice (some ⟨w.heap.size, 0, none⟩) j j] 111)) := (Below.refl _ _).alloc (Nat.le_refl _) _
            refine ⟨_, rfl, ?_, Below.on HG.out hal⟩
            have hnew := heap_alloc_new wr (Obj.cells #[Value.string str, Value.slice (some ⟨w.heap.size, 0, none⟩) j j] 111)
            simp only [Fo.subst, if_neg (show ¬ c.1 = 0 by have := H0.out; omega)]
            refine ⟨_, [], rfl, .inr (.inr (.inr ⟨H0.out, wr.heap.size, w.heap.size, ns, rfl, by omega, Nat.le_refl _, by rw [← HES.out]; exact cell_of_row _ _ 0 _ _ _ hnew, by rw [hns]; exact cell_of_row _ _ 1 _ _ _ hnew, by simp; omega, fun i hi => ?_, ?_⟩)), rfl⟩
            · refine Lib.cell?_alloc_marked _ ?_
              rw [HO.out.cellAt i (by omega), List.getElem?_append_left (by omega)]
              simp [List.getD, hi]
            · exact (HFO.out.below hal).mono (by omega)
          clear hns
          go_wp2_with fail
          go_ret
          exact HFIN.out

end Go.Proofs.Ytjbckdmlogjggaa
