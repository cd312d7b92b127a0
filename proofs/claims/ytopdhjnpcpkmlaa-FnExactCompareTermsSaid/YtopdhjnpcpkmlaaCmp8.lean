/- compare, slices.CompareFunc. Own work of the verifier. -/
import Derived.Test.YtopdhjnpcpkmlaaCmp7
namespace Go.Proofs.Ytopdhjnpcpkmlaa
open Go Go.RowKit Go.Maps
set_option linter.unusedVariables false

def cmpN (rk : Fun → Int) (c c' : Cel) : Int := orI (cmpI c.1 c'.1) (cmpI (rankOf rk c) (rankOf rk c'))
def cmpFo (rk : Fun → Int) : Fo → Fo → Int
  | .nil, .nil => 0
  | .nil, .node _ _ _ => -1
  | .node _ _ _, .nil => 1
  | .node c k r, .node c' k' r' => orI (orI (cmpN rk c c') (cmpFo rk k k')) (cmpFo rk r r')
def NamesIn (ks : List Fun) (cs : List Cel) : Prop := ∀ x ∈ cs, (x.1 = 2 ∨ x.1 = 3) → (strOfNums x.2.2, x.2.1) ∈ ks
def CmpOut (w : World) (r : Int) (e : Ending) (w' : World) : Prop := e = .returned (.int .i64 r) ∧ Below w.heap.size w w'
/-- compare is right at the terms of fewer cells than n. -/
def CmpOk (w0 : World) (Bt b N : Nat) (ks : List Fun) (rk : Fun → Int) (n : Nat) : Prop := ∀ (c : Cel) (k : Fo) (v : Value) (c' : Cel) (k' : Fo) (v' : Value) (w : World), k.cells.length + 1 ≤ n → (Fo.node c k .nil).ok → (Fo.node c' k' .nil).ok → FoIn w0 Bt (.node c k .nil) [v] → FoIn w0 Bt (.node c' k' .nil) [v'] →
  NamesIn ks (c :: k.cells) → NamesIn ks (c' :: k'.cells) → Below w0.heap.size w0 w → FunMap w b N ks rk → Calls Try.prog 64 #[.map (some b), v, v'] w (CmpOut w (orI (cmpN rk c c') (cmpFo rk k k')))
/-- How arguments lie. -/
def ArgIn (w : World) (p : Option Addr) (vs : List Value) : Prop := ∀ j, j < vs.length → ∃ g, p = some ⟨g, 0, none⟩ ∧ w.cell? ⟨g, j, none⟩ = some (vs.getD j .nilIface)

theorem NamesIn.sub {ks : List Fun} {a b : List Cel} (h : NamesIn ks b) (hs : ∀ x ∈ a, x ∈ b) : NamesIn ks a := fun x hx => h x (hs x hx)

set_option maxRecDepth 100000 in
set_option maxHeartbeats 1000000 in
theorem compareFunc_any (w0 : World) (Bt b N : Nat) (ks : List Fun) (rk : Fun → Int) (n : Nat) (hcmp : CmpOk w0 Bt b N ks rk n) (K K' : Fo) (vs vs' : List Value) (p p' : Option Addr) (q q' c1 c2 : Nat) (w : World) (hq : q = vs.length) (hq' : q' = vs'.length) (hqb : q ≤ 100000) (hqb' : q' ≤ 100000)
    (hK : K.cells.length ≤ n) (hok : K.ok) (hok' : K'.ok) (hfo : FoIn w0 Bt K vs) (hfo' : FoIn w0 Bt K' vs') (ha : ArgIn w0 p vs) (ha' : ArgIn w0 p' vs') (hns : NamesIn ks K.cells) (hns' : NamesIn ks K'.cells) (hw : Below w0.heap.size w0 w) (hm : FunMap w b N ks rk) :
    Calls Try.prog 81 #[.slice p q c1, .slice p' q' c2, .func (.func 64) #[.map (some b)] #[]] w (CmpOut w (cmpFo rk K K')) := by
  have HC : Hid (CmpOk w0 Bt b N ks rk n) := hcmp
  have HQ : Hid (q = vs.length ∧ q' = vs'.length) := ⟨hq, hq'⟩
  have HOK : Hid (K.ok ∧ K'.ok ∧ K.cells.length ≤ n) := ⟨hok, hok', hK⟩
  have HFO : Hid (FoIn w0 Bt K vs ∧ FoIn w0 Bt K' vs') := ⟨hfo, hfo'⟩
  have HA : Hid (ArgIn w0 p vs ∧ ArgIn w0 p' vs') := ⟨ha, ha'⟩
  have HNS : Hid (NamesIn ks K.cells ∧ NamesIn ks K'.cells) := ⟨hns, hns'⟩
  have HW : Hid (Below w0.heap.size w0 w) := hw
  have HM : Hid (FunMap w b N ks rk) := hm
  clear hcmp hq hq' hok hok' hK hfo hfo' ha ha' hns hns' hw hm
  go_enter Try.func81, Try.ntmps81
  go_wp2_with fail
  go_loopw [13] (fun i wr => ∃ (D R D' R' : Fo) (us vr us' vr' : List Value) (j : Nat), j ≤ q ∧ i = .int .i64 j ∧ Hid (K = D.cat R ∧ vs = us ++ vr ∧ us.length = j) ∧ Hid (K' = D'.cat R' ∧ vs' = us' ++ vr' ∧ us'.length = j) ∧ Hid (FoIn w0 Bt R vr ∧ FoIn w0 Bt R' vr') ∧ Hid (cmpFo rk K K' = cmpFo rk R R') ∧ Hid (Below w.heap.size w wr)) (fun i _ => q - (intOf i).toNat)
  case atStart => exact ⟨.nil, K, .nil, K', [], vs, [], vs', 0, Nat.zero_le _, rfl, ⟨rfl, rfl, rfl⟩, ⟨rfl, rfl, rfl⟩, HFO, rfl, Below.refl _ _⟩
  case round =>
    obtain ⟨D, R, D', R', us, vr, us', vr', j, hj, rfl, HF, HF', HR, HE, HB⟩ := hrel
    by_cases hlt : j < q
    · obtain ⟨c, k, r, rfl⟩ : ∃ c k r, R = .node c k r := by
        cases R with
        | nil =>
          have h1 := HF.out
          have h2 : vr = [] := HR.out.1
          have h3 := HQ.out.1
          rw [h1.2.1, h2, List.append_nil] at h3
          omega
        | node c k r => exact ⟨c, k, r, rfl⟩
      obtain ⟨v, vt, rfl, hnode, hrest⟩ := HR.out.1
      obtain ⟨g, rfl, hg⟩ := HA.out.1 j (by rw [← HQ.out.1]; exact hlt)
      have hat : w0.cell? ⟨g, j, none⟩ = some v := by rw [hg, HF.out.2.1]; simp [List.getD, HF.out.2.2]
      have hwr : Below w0.heap.size w0 wr := Below.on HW.out HB.out
      have d1 : wr.cell? ⟨g, j, none⟩ = some v := (hwr.cell (World.block_lt_of_cell? _ _ hat)).trans hat
      by_cases hlt' : j < q'
      · obtain ⟨c', k', r', rfl⟩ : ∃ c k r, R' = .node c k r := by
          cases R' with
          | nil =>
            have h1 := HF'.out
            have h2 : vr' = [] := HR.out.2
            have h3 := HQ.out.2
            rw [h1.2.1, h2, List.append_nil] at h3
            omega
          | node c k r => exact ⟨c, k, r, rfl⟩
        obtain ⟨v', vt', rfl, hnode', hrest'⟩ := HR.out.2
        obtain ⟨g', rfl, hg'⟩ := HA.out.2 j (by rw [← HQ.out.2]; exact hlt')
        have hat' : w0.cell? ⟨g', j, none⟩ = some v' := by rw [hg', HF'.out.2.1]; simp [List.getD, HF'.out.2.2]
        have d1' : wr.cell? ⟨g', j, none⟩ = some v' := (hwr.cell (World.block_lt_of_cell? _ _ hat')).trans hat'
        have ho := (Fo.ok_cat D (.node c k r)).1 (HF.out.1 ▸ HOK.out.1)
        have ho' := (Fo.ok_cat D' (.node c' k' r')).1 (HF'.out.1 ▸ HOK.out.2.1)
        have hl : k.cells.length + 1 ≤ n := by
          have := HOK.out.2.2
          rw [HF.out.1, Fo.cells_cat] at this; simp [Fo.cells] at this; omega
        have hsub : NamesIn ks (c :: k.cells) := HNS.out.1.sub fun x hx => by
          rw [HF.out.1, Fo.cells_cat]; simp only [Fo.cells, List.mem_append, List.mem_cons] at hx ⊢; rcases hx with h | h <;> simp [h]
        have hsub' : NamesIn ks (c' :: k'.cells) := HNS.out.2.sub fun x hx => by
          rw [HF'.out.1, Fo.cells_cat]; simp only [Fo.cells, List.mem_append, List.mem_cons] at hx ⊢; rcases hx with h | h <;> simp [h]
        have HCALL := HC.out c k v c' k' v' wr hl ⟨ho.2.1, ho.2.2.1, ho.2.2.2.1, ho.2.2.2.2.1, ho.2.2.2.2.2.1, trivial⟩ ⟨ho'.2.1, ho'.2.2.1, ho'.2.2.2.1, ho'.2.2.2.2.1, ho'.2.2.2.2.2.1, trivial⟩ ⟨v, [], rfl, hnode, rfl⟩ ⟨v', [], rfl, hnode', rfl⟩ hsub hsub' hwr (HM.out.below HB.out)
        obtain ⟨t1, x1, rfl⟩ := hnode.iface
        obtain ⟨t2, x2, rfl⟩ := hnode'.iface
        obtain ⟨cc, ecc⟩ : ∃ cc, cc = orI (cmpN rk c c') (cmpFo rk k k') := ⟨_, rfl⟩
        have HEE : Hid (cmpFo rk K K' = orI cc (cmpFo rk r r')) := by show _ = _; rw [HE.out, cmpFo, ecc]
        have HRR : Hid (FoIn w0 Bt r vt ∧ FoIn w0 Bt r' vt') := ⟨hrest, hrest'⟩
        rw [← ecc] at HCALL
        clear ho ho' hl hsub hsub' hat hat' hg hg' hwr hnode hnode' hrest hrest' ecc
        go_wp2_with fail
        refine HCALL.mono ?_
        rintro e w2 ⟨rfl, hb2⟩
        have HB2 : Hid (Below w.heap.size w w2) := Below.on HB.out hb2
        clear hb2 HCALL
        by_cases hz : cc = 0
        · subst hz
          have HN : Hid (K = (D.cat (.node c k .nil)).cat r ∧ vs = (us ++ [.iface t1 x1]) ++ vt ∧ (us ++ [Value.iface t1 x1]).length = j + 1) := ⟨by rw [Fo.cat_assoc]; exact HF.out.1, by rw [HF.out.2.1]; simp, by simp [HF.out.2.2]⟩
          have HN' : Hid (K' = (D'.cat (.node c' k' .nil)).cat r' ∧ vs' = (us' ++ [.iface t2 x2]) ++ vt' ∧ (us' ++ [Value.iface t2 x2]).length = j + 1) := ⟨by rw [Fo.cat_assoc]; exact HF'.out.1, by rw [HF'.out.2.1]; simp, by simp [HF'.out.2.2]⟩
          go_wp2_with fail
          go_roundw
          case rel => exact ⟨_, r, _, r', _, vt, _, vt', j + 1, by omega, by go_num, HN, HN', HRR, by show _ = _; rw [HEE.out, orI, if_neg (by simp)], HB2⟩
          case measure => simp [intOf]; omega
        · have HFIN : Hid (CmpOut w (cmpFo rk K K') (.returned (.int .i64 cc)) w2) := ⟨ret_int (by rw [HEE.out, orI, if_pos hz]), HB2.out⟩
          go_wp2_with fail
          go_ret
          exact HFIN.out
      · obtain rfl : R' = .nil := by
          have h1 := FoIn.count _ _ HR.out.2
          have h2 := HQ.out.2
          rw [HF'.out.2.1, List.length_append] at h2
          have h3 := HF'.out.2.2
          cases R' with
          | nil => rfl
          | node a b d => simp [Fo.count] at h1; omega
        have hge : (q' : Int) ≤ (j : Int) := by omega
        obtain ⟨t1, x1, rfl⟩ := hnode.iface
        have HFIN : Hid (CmpOut w (cmpFo rk K K') (.returned (.int .i64 1)) wr) := ⟨ret_int (by rw [HE.out, cmpFo]), HB.out⟩
        clear hat hg hwr hnode hrest
        go_wp2_with fail
        go_ret
        exact HFIN.out
    · obtain rfl : j = q := by omega
      obtain rfl : R = .nil := by
        have h1 := FoIn.count _ _ HR.out.1
        have h2 := HQ.out.1
        rw [HF.out.2.1, List.length_append] at h2
        have h3 := HF.out.2.2
        cases R with
        | nil => rfl
        | node a b d => simp [Fo.count] at h1; omega
      have hcnt : q' = j + R'.count := by
        have h1 := FoIn.count _ _ HR.out.2
        have h2 := HQ.out.2
        rw [HF'.out.2.1, List.length_append, HF'.out.2.2, h1] at h2
        exact h2
      cases R' with
      | nil =>
        have hqq : q' = j := by simpa [Fo.count] using hcnt
        clear hcnt
        subst hqq
        have HFIN : Hid (CmpOut w (cmpFo rk K K') (.returned (.int .i64 0)) wr) := ⟨ret_int (by rw [HE.out, cmpFo]), HB.out⟩
        go_wp2_with fail
        go_ret
        exact HFIN.out
      | node a b' d =>
        have hlt2 : (j : Int) < (q' : Int) := by simp [Fo.count] at hcnt; omega
        have HFIN : Hid (CmpOut w (cmpFo rk K K') (.returned (.int .i64 (-1))) wr) := ⟨ret_int (by rw [HE.out, cmpFo]), HB.out⟩
        clear hcnt
        go_wp2_with fail
        go_ret
        exact HFIN.out

theorem count_ok {c : Cel} {k : Fo} (h : (Fo.node c k .nil).ok) : k.count ≤ 100000 := by
  by_cases h3 : c.1 = 3
  · have h1 := h.2.2.1 h3
    have h2 := h.1
    rw [h3] at h2
    simp [cellB] at h2
    omega
  · rw [h.2.2.2.1 h3]; simp [Fo.count]
/-- The arguments of a node. -/
theorem args_any (c : Cel) (k : Fo) (v : Value) (Bt : Nat) (w0 w : World) (hok : (Fo.node c k .nil).ok) (hn : NodeIn w0 Bt c (fun kv => FoIn w0 Bt k kv) v) (hw : Below w0.heap.size w0 w) :
    ∃ (p : Option Addr) (vs : List Value), FoIn w0 Bt k vs ∧ ArgIn w0 p vs ∧ ∀ W, Below w.heap.size w W → Calls Try.prog 74 #[v] W fun e w' => e = .returned (.slice p vs.length vs.length) ∧ w' = W := by
  have leaf : ∀ (t : TypeId) (x : Value), v = .iface t x → (t = 67 ∨ t = 107 ∨ t = 76) → c.1 ≠ 3 → ∃ (p : Option Addr) (vs : List Value), FoIn w0 Bt k vs ∧ ArgIn w0 p vs ∧ ∀ W, Below w.heap.size w W → Calls Try.prog 74 #[v] W fun e w' => e = .returned (.slice p vs.length vs.length) ∧ w' = W := fun t x hv ht h3 => by
    have hk : k = .nil := hok.2.2.2.1 h3
    subst hk hv
    exact ⟨none, [], rfl, fun j h => by simp at h, fun W _ => argsLeaf_any t x W ht⟩
  rcases hn with ⟨h0, hv⟩ | ⟨h0, hv⟩ | ⟨h0, hv⟩ | ⟨h0, b, g, vs, hv, _, _, c0, c1, _, cg, hk⟩
  · exact leaf _ _ hv (.inl rfl) (by rw [h0]; decide)
  · exact leaf _ _ hv (.inr (.inl rfl)) (by rw [h0]; decide)
  · exact leaf _ _ hv (.inr (.inr rfl)) (by rw [h0]; decide)
  · subst hv
    exact ⟨some ⟨g, 0, none⟩, vs, hk, fun j hj => ⟨g, rfl, cg j hj⟩, fun W hW => argsComp_any b g vs.length W (((Below.on hw hW).cell (World.block_lt_of_cell? _ _ c1)).trans c1)⟩

set_option maxRecDepth 100000 in
set_option maxHeartbeats 1000000 in
theorem compare_step (w0 : World) (Bt b N : Nat) (ks : List Fun) (rk : Fun → Int) (n : Nat) (hcmp : CmpOk w0 Bt b N ks rk n) (hn : n ≤ 100000) : CmpOk w0 Bt b N ks rk (n + 1) := by
  intro c k v c' k' v' w hl hok hok' hfo hfo' hns hns' hw hm
  obtain ⟨_, _, e, hnode, _⟩ := hfo
  obtain ⟨rfl, rfl⟩ := List.cons.inj e
  obtain ⟨_, _, e', hnode', _⟩ := hfo'
  obtain ⟨rfl, rfl⟩ := List.cons.inj e'
  clear e e'
  have HP1 := place_any c k v Bt b N ks rk w0 w hok hw hm (hns c (by simp)) hnode
  have HP2 : Hid (∀ W, Below w.heap.size w W → Calls Try.prog 78 #[.map (some b), v'] W (PlaceOut W c'.1 (rankOf rk c'))) := fun W hW => place_any c' k' v' Bt b N ks rk w0 W hok' (Below.on hw hW) (hm.below hW) (hns' c' (by simp)) hnode'
  obtain ⟨p1, vs, hfk, hak, HA1⟩ := args_any c k v Bt w0 w hok hnode hw
  obtain ⟨p2, vs', hfk', hak', HA2⟩ := args_any c' k' v' Bt w0 w hok' hnode' hw
  have hc1 := count_ok hok
  have hc2 := count_ok hok'
  have HCF : Hid (∀ W, Below w.heap.size w W → Calls Try.prog 81 #[.slice p1 vs.length vs.length, .slice p2 vs'.length vs'.length, .func (.func 64) #[.map (some b)] #[]] W (CmpOut W (cmpFo rk k k'))) := fun W hW =>
    compareFunc_any w0 Bt b N ks rk n hcmp k k' vs vs' p1 p2 vs.length vs'.length vs.length vs'.length W rfl rfl (by rw [FoIn.count _ _ hfk]; exact hc1) (by rw [FoIn.count _ _ hfk']; exact hc2) (by omega) hok.2.2.2.2.1 hok'.2.2.2.2.1 hfk hfk' hak hak' (hns.sub fun x hx => by simp [hx]) (hns'.sub fun x hx => by simp [hx]) (Below.on hw hW) (hm.below hW)
  have HI1 := fun W => compareI_any c.1 c'.1 W
  have HI2 := fun W => compareI_any (rankOf rk c) (rankOf rk c') W
  have hO : ∀ (b : Nat) (W : World), W.cell? ⟨b, 0, none⟩ = some (.int .i64 (cmpI c.1 c'.1)) → W.cell? ⟨b, 1, none⟩ = some (.int .i64 (cmpI (rankOf rk c) (rankOf rk c'))) → Calls Try.prog 79 #[.slice (some ⟨b, 0, none⟩) 2 2] W fun e w' => e = .returned (.int .i64 (cmpN rk c c')) ∧ w' = W := fun b W h0 h1 => or_any b _ _ W h0 h1
  have HO : Hid _ := hO
  have HA1' : Hid _ := HA1
  have HA2' : Hid _ := HA2
  have HI1' : Hid _ := HI1
  have HI2' : Hid _ := HI2
  have HR : Hid (∀ cn, cn = cmpN rk c c' → (cn ≠ 0 → cn = orI (cmpN rk c c') (cmpFo rk k k')) ∧ (cn = 0 → cmpFo rk k k' = orI (cmpN rk c c') (cmpFo rk k k'))) := fun cn h => ⟨fun h1 => by rw [← h, orI, if_pos h1], fun h1 => by rw [← h, orI, if_neg (by simp [h1])]⟩
  obtain ⟨t1, x1, rfl⟩ := hnode.iface
  obtain ⟨t2, x2, rfl⟩ := hnode'.iface
  generalize hcn : cmpN rk c c' = cn at *
  generalize hrr : orI cn (cmpFo rk k k') = rr at *
  clear hO HA1 HA2 HI1 HI2 hnode hnode' hfk hfk' hak hak' hns hns' hok hok' hm hcmp hl hc1 hc2
  generalize cmpI c.1 c'.1 = ci at *
  generalize cmpI (rankOf rk c) (rankOf rk c') = cj at *
  generalize rankOf rk c = r1 at *
  generalize rankOf rk c' = r2 at *
  generalize c.1 = k1 at *
  generalize c'.1 = k2 at *
  generalize cmpFo rk k k' = cf at *
  generalize vs.length = q1 at *
  generalize vs'.length = q2 at *
  go_enter Try.func64, Try.ntmps64
  go_wp2_with fail
  clear hcn hrr
  refine HP1.mono ?_
  rintro e w1 ⟨rfl, hb1⟩
  have HB1 : Hid (Below w.heap.size w w1) := hb1
  clear hb1 HP1
  go_wp2_with fail
  refine (HP2.out w1 HB1.out).mono ?_
  rintro e w2 ⟨rfl, hb2⟩
  have HB2 : Hid (Below w.heap.size w w2) := Below.on HB1.out hb2
  clear hb2
  go_wp2_with fail
  refine (HI1'.out w2).mono ?_
  rintro e w2 ⟨rfl, rfl⟩
  go_wp2_with fail
  refine (HI2'.out w2).mono ?_
  rintro e w2 ⟨rfl, rfl⟩
  go_wp2_with fail
  refine (HO.out _ _ (by exact (pair_new w2 _ _ _).1) (by exact (pair_new w2 _ _ _).2)).mono ?_
  rintro e w3 ⟨rfl, rfl⟩
  have HB3 : Hid (Below w.heap.size w (w2.alloc (.cells #[.int .i64 ci, .int .i64 cj] 3))) := HB2.out.alloc HB2.out.size _
  generalize w2.alloc (.cells #[.int .i64 ci, .int .i64 cj] 3) = w3 at *
  by_cases hz : cn = 0
  · have HRR : Hid (cf = rr) := (HR.out cn rfl).2 hz
    subst hz
    go_wp2_with fail
    refine (HA1'.out w3 HB3.out).mono ?_
    rintro e w3 ⟨rfl, rfl⟩
    go_wp2_with fail
    refine (HA2'.out w3 HB3.out).mono ?_
    rintro e w3 ⟨rfl, rfl⟩
    go_wp2_with fail
    refine (HCF.out w3 HB3.out).mono ?_
    rintro e w4 ⟨rfl, hb4⟩
    have HFIN : Hid (CmpOut w rr (.returned (.int .i64 cf)) w4) := ⟨ret_int HRR.out, Below.on HB3.out hb4⟩
    clear hb4
    go_wp2_with fail
    go_ret
    exact HFIN.out
  · have HFIN : Hid (CmpOut w rr (.returned (.int .i64 cn)) w3) := ⟨ret_int ((HR.out cn rfl).1 hz), HB3.out⟩
    go_wp2_with fail
    go_ret
    exact HFIN.out

theorem compare_any (w0 : World) (Bt b N : Nat) (ks : List Fun) (rk : Fun → Int) : ∀ n, n ≤ 100000 → CmpOk w0 Bt b N ks rk n
  | 0, _ => fun c k v c' k' v' w hl => by omega
  | n + 1, h => compare_step w0 Bt b N ks rk n (compare_any w0 Bt b N ks rk n (by omega)) (by omega)

end Go.Proofs.Ytopdhjnpcpkmlaa
