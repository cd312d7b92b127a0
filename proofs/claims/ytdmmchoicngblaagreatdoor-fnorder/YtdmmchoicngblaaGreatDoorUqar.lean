/- Texts of OrZ2, OrR, OrR2, OrI, LwC, LawVars, EvS1, EvS0, EvS2, EvS3, EvS4, EvS5, EvS6, EvS7, EvS8. Own work of the verifier. -/
import Derived.Test.YtdmmchoicngblaaGreatDoorUqai
import Derived.Test.YtdmmchoicngblaaGreatDoorUqae
import Derived.Test.YtdmmchoicngblaaGreatDoorUqag
import Derived.Test.YtdmmchoicngblaaGreatDoorUqaq
namespace Go.Proofs.YtdmmchoicngblaaGreatDoor
set_option linter.unusedVariables false
set_option linter.unusedSimpArgs false
set_option maxRecDepth 100000
section
open Go
def rngI (m : Nat) : List Int := (List.range m).map Int.ofNat
theorem rngI_succ (m : Nat) : rngI (m + 1) = rngI m ++ [(m : Int)] := by simp [rngI, List.range_succ]
theorem rngI_len (m : Nat) : (rngI m).length = m := by simp [rngI]
theorem rngI_idx {m : Nat} {x : Int} (h : x ∈ rngI m) : (((rngI m).idxOf x : Nat) : Int) = x := by
 have hl := List.idxOf_lt_length_iff.2 h; have h1 := List.getElem_idxOf hl
 have h2 : ∀ (j : Nat) (hj : j < (rngI m).length), (rngI m)[j] = (j : Int) := fun j hj => by
  simp [rngI]
 exact (h2 _ hl).symm.trans h1
theorem rngI_mem {m i : Nat} (h : i < m) : (i : Int) ∈ rngI m := List.mem_map.2 ⟨i, List.mem_range.2 h, rfl⟩
theorem rngI_prefix {m : Nat} {l : List Int} (h : l <+: rngI m) : l = rngI l.length := by
 obtain ⟨t, ht⟩ := h
 have h1 : l = (rngI m).take l.length := by rw [← ht]; simp
 have h2 : l.length ≤ m := by have := congrArg List.length ht; rw [rngI_len] at this; simp at this; omega
 have h3 : (rngI m).take l.length = rngI l.length := by
  simp only [rngI, ← List.map_take, List.take_range]; rw [Nat.min_eq_left h2]
 exact h1.trans h3
theorem ren_id {cs : List Cel} {m : Nat} (h : visits [] cs = rngI m) : ∀ c ∈ cs, renI (visits [] cs) c = c := fun c hc => by
 by_cases h0 : c.1 = 0
 ·have hm : c.2.1 ∈ visits [] cs := by
   have : ∀ (l : List Cel) (ks : List Int), c ∈ l → c.2.1 ∈ visits ks l := fun l => by
    induction l with
    | nil => intro ks h; simp at h
    | cons x r ih =>
      intro ks h
      rw [visits_cons]
      rcases List.mem_cons.1 h with rfl | h
      ·have h1 : c.2.1 ∈ visitL ks c := by rw [visitL, if_pos h0]; exact putV_mem _ _
       exact (visits_prefix r _).subset h1
      ·exact ih _ h
   exact this cs [] hc
  rw [h] at hm ⊢; rw [renI, if_pos h0, rngI_idx hm]
 ·rw [renI, if_neg h0]
theorem ren_num : ∀ (cs : List Cel) (ks L : List Int), visits ks cs <+: L → visits (rngI ks.length) (cs.map (renI L)) = rngI (visits ks cs).length
 | [], ks, L, _ => rfl
 | c :: r, ks, L, h => by
   rw [visits_cons] at h; rw [List.map_cons, visits_cons, visits_cons]; have ih := ren_num r (visitL ks c) L h; have hp : visitL ks c <+: L := (visits_prefix r _).trans h
   have e : visitL (rngI ks.length) (renI L c) = rngI (visitL ks c).length := by
    by_cases h0 : c.1 = 0
    ·rw [visitL, renI_kind, if_pos h0, visitL, if_pos h0, renI, if_pos h0]
     rw [visitL, if_pos h0] at hp; have hi := idxOf_prefix hp (putV_mem ks c.2.1); rw [putV_idx] at hi; simp only [hi]
     by_cases hm : c.2.1 ∈ ks
     ·have := List.idxOf_lt_length_iff.2 hm
      rw [putV, if_pos (rngI_mem this), putV, if_pos hm]
     ·have hk : ks.idxOf c.2.1 = ks.length := List.idxOf_eq_length hm
      have hn : ¬ ((ks.length : Nat) : Int) ∈ rngI ks.length := fun hx => by
       have := List.idxOf_lt_length_iff.2 hx; have h2 := rngI_idx hx; rw [rngI_len] at this
       omega
      rw [hk, putV, if_neg hn, putV, if_neg hm, List.length_append, List.length_singleton, rngI_succ]
    ·rw [visitL, renI_kind, if_neg h0, visitL, if_neg h0]
   rw [e, ih]
theorem ren_num0 (cs : List Cel) : visits [] (cs.map (renI (visits [] cs))) = rngI (visits [] cs).length := ren_num cs [] _ List.prefix_rfl
theorem num_take {xs ys : List Cel} {m : Nat} (h : visits [] (xs ++ ys) = rngI m) : visits [] xs = rngI (visits [] xs).length :=
 rngI_prefix (by rw [← h, visits_append]; exact visits_prefix ys _)
end
section
open Go Go.RowKit Go.Maps
set_option maxHeartbeats 1000000 in
theorem replaceC_any : ∀ (N : Nat) (c : Cel) (k : Fo) (v : Value) (nb mb : Nat) (ks : List Int) (w0 w : World), k.cells.length ≤ N → (Fo.node c k .nil).ok → FoC w0 (.node c k .nil) [v] → Below w0.heap.size w0 w → w0.heap.size ≤ mb → RState w nb mb ks → ks.length + 1 + k.cells.length ≤ 100000 →
  Calls Tryz.prog 144 #[v, .func (.func 254) #[] #[.pointer (some ⟨nb, 0, none⟩)]] w (ReplOut w nb mb ks c k) := by
 intro N
 induction N using Nat.strongRecOn with
 | _ N ih =>
   intro c k v nb mb ks w0 w hN hok hfo hw hmb hs hlen
   obtain ⟨v', vr, e, hnode, _⟩ := hfo; obtain ⟨rfl, rfl⟩ := List.cons.inj e
   rcases hnode with ⟨h0, rfl⟩ | ⟨h0, rfl⟩ | ⟨h0, rfl⟩ | ⟨h0, b, g, cq, vs, rfl, hcomp⟩
   ·have hk : k = .nil := hok.2.2.2.1 (by rw [h0]; decide)
    subst hk
    have hx : 0 ≤ c.2.1 ∧ c.2.1 ≤ 1000000 := by have := hok.1; rw [h0] at this; simp [cellB] at this; omega
    have HW := with_any c.2.1 nb mb ks w hx.1 hx.2 (by omega) hs
    have HF : Hid (∀ w', RState w' nb mb (putV ks c.2.1) → w.grownBy w' (some mb) → ReplOut w nb mb ks c .nil (.returned (.iface 82 (.int .i64 (ks.idxOf c.2.1)))) w') := fun w' h1 h2 => by
     have e1 : visits ks (c :: Fo.nil.cells) = putV ks c.2.1 := by simp [visits, Fo.cells, visitL, h0]
     refine ⟨_, rfl, by rw [e1]; exact h1, h2, fun L hL => ⟨_, [], rfl, .inl ⟨by rw [renI_kind]; exact h0, ?_⟩, rfl⟩⟩; rw [e1] at hL; rw [renI, if_pos h0, idxOf_prefix hL (putV_mem _ _), putV_idx]
    obtain ⟨x, ex⟩ : ∃ x, x = c.2.1 := ⟨_, rfl⟩
    obtain ⟨ix, ei⟩ : ∃ ix, ix = ks.idxOf c.2.1 := ⟨_, rfl⟩
    rw [← ei] at HW HF; rw [← ex] at HW HF ⊢; have n1 := isVar; clear ih hok hw hs hx ex ei e hlen
    go_enter Tryz.func144, Tryz.ntmps144
    go_wp2_with fail; refine HW.mono ?_; rintro e w1 ⟨rfl, h1, h2⟩; go_wp2_with fail; go_ret; exact HF.out _ h1 h2
   ·have hk : k = .nil := hok.2.2.2.1 (by rw [h0]; decide)
    subst hk; have n1 := noVar_num; have n2 := noComp_num
    have hv : visits ks (c :: Fo.nil.cells) = ks := by simp [visits, Fo.cells, visitL, h0]
    have HF : Hid (ReplOut w nb mb ks c .nil (.returned (.iface 150 (.int .i64 c.2.1))) w) := ⟨_, rfl, by rw [hv]; exact hs, ⟨rfl, rfl, rfl, Nat.le_refl _, fun _ _ _ => rfl⟩, fun L _ => ⟨_, [], rfl, .inr (.inl ⟨by rw [renI_kind]; exact h0, by rw [renI, if_neg (by rw [h0]; decide)]⟩), rfl⟩⟩
    obtain ⟨x, ex⟩ : ∃ x, x = Value.int .i64 c.2.1 := ⟨_, rfl⟩
    rw [← ex] at HF ⊢; clear ih hok hw hs ex e hlen hv
    go_enter Tryz.func144, Tryz.ntmps144
    go_wp2_with fail; go_ret; exact HF.out
   ·have hk : k = .nil := hok.2.2.2.1 (by rw [h0]; decide)
    subst hk; have n1 := noVar_atom; have n2 := noComp_atom
    have hv : visits ks (c :: Fo.nil.cells) = ks := by simp [visits, Fo.cells, visitL, h0]
    have HF : Hid (ReplOut w nb mb ks c .nil (.returned (.iface 94 (.string (strOfNums c.2.2)))) w) := ⟨_, rfl, by rw [hv]; exact hs, ⟨rfl, rfl, rfl, Nat.le_refl _, fun _ _ _ => rfl⟩, fun L _ => ⟨_, [], rfl, .inr (.inr (.inl ⟨by rw [renI_kind]; exact h0, by rw [renI, if_neg (by rw [h0]; decide)]⟩)), rfl⟩⟩
    obtain ⟨x, ex⟩ : ∃ x, x = Value.string (strOfNums c.2.2) := ⟨_, rfl⟩
    rw [← ex] at HF ⊢; clear ih hok hw hs ex e hlen hv
    go_enter Tryz.func144, Tryz.ntmps144
    go_wp2_with fail; go_ret; exact HF.out
   ·have n1 := noVar_comp
    have n2 := isComp; have HC : Hid _ := hcomp; have hvl2 : vs.length = k.count := FoC.count _ _ hcomp.2.2.2.2.2.2
    obtain ⟨q, eq⟩ : ∃ q, q = vs.length := ⟨_, rfl⟩
    have HE : Hid (q = vs.length ∧ vs.length = k.count) := ⟨eq, hvl2⟩
    have hq : q ≤ 100000 := by have := Fo.count_le k; omega
    have HK : Hid k.ok := hok.2.2.2.2.1; have d0 := (hw.cell (World.block_lt_of_cell? _ _ hcomp.2.2.1)).trans hcomp.2.2.1; have d1 := (hw.cell (World.block_lt_of_cell? _ _ hcomp.2.2.2.1)).trans hcomp.2.2.2.1; rw [← eq] at d1; have HBB : Hid (b < w0.heap.size) := World.block_lt_of_cell? _ _ hcomp.2.2.1
    have hv0 : visitL ks c = ks := by rw [visitL, if_neg (by rw [h0]; decide)]
    have HV0 : Hid (∀ cs, visits ks (c :: cs) = visits ks cs) := fun cs => by rw [visits_cons, hv0]
    have HS : Hid (RState w nb mb ks) := hs; have HW : Hid (Below w0.heap.size w0 w) := hw; have HIH : Hid _ := ih; have hml := hs.map.lt; have hnl : nb < w.heap.size := World.block_lt_of_cell? _ _ hs.ncell
    have HREN : Hid (∀ L, renI L c = c) := fun L => by rw [renI, if_neg (by rw [h0]; decide)]
    have H0 : Hid (c.1 = 3) := h0
    obtain ⟨str, es⟩ : ∃ str, str = strOfNums c.2.2 := ⟨_, rfl⟩
    rw [← es] at d0; have HES : Hid (str = strOfNums c.2.2) := es; obtain ⟨i0, hi, hz0, hz1, hz2⟩ := info_parts infoTerm
    have hmx : q ≤ maxLen := by unfold maxLen; omega
    clear ih hok hw hs e hcomp eq hvl2 hv0 es h0
    go_enter Tryz.func144, Tryz.ntmps144
    go_wp2_with (at_make; refine wpList_make_full _ rfl _ _ 83 rfl w.heap.size 58 i0 .nilIface 1 Tryz.underlying83 hi hz0 hz1 _ _ _ _ q rfl rfl rfl rfl (by rw [hz2]; omega) hmx (Nat.le_refl _) ?_; intro w1 hown hgrow; have d0' := ((World.cell?_of_block (w := w) (a := ⟨b, 0, none⟩) (hgrow.block b (World.block_lt_of_cell? _ _ d0) (fun h => by cases h)))).trans d0; have d1' := ((World.cell?_of_block (w := w) (a := ⟨b, 1, none⟩) (hgrow.block b (World.block_lt_of_cell? _ _ d1) (fun h => by cases h)))).trans d1)
    have HO1 : Hid (w1.ownsRow w.heap.size 58 1 (.slice (some ⟨w.heap.size, 0, none⟩) q q) q ([] ++ List.replicate (q - 0) .nilIface)) := by
     have := hown
     simp [Value.cells, toList_madeCells_one] at this
     exact this
    have HG1 : Hid (w.grownBy w1 (some mb)) := ⟨hgrow.os, hgrow.tape, hgrow.output, hgrow.size, fun k hk _ => hgrow.block k hk (fun h => by cases h)⟩
    have HS1 : Hid (RState w1 nb mb ks) := HS.out.below ((Below.refl _ _).grown hgrow (Nat.le_refl _) (fun k h => by cases h))
    have hs1 : w.heap.size + 1 ≤ w1.heap.size := by have := (hown.lt w.heap.size rfl).2; omega
    clear hown hgrow hi hz0 hz1 hz2 d0 d1 d0' d1'
    go_loopw [31] (fun i wr => ∃ (D R : Fo) (us vs2 ns : List Value) (j : Nat), j ≤ q ∧ i = .int .i64 j ∧ Hid (k = D.cat R ∧ vs = us ++ vs2 ∧ us.length = j ∧ ns.length = j) ∧ Hid (FoC w0 R vs2) ∧ Hid (RState wr nb mb (visits ks D.cells)) ∧
     Hid (wr.ownsRow w.heap.size 58 1 (.slice (some ⟨w.heap.size, 0, none⟩) q q) q (ns ++ List.replicate (q - j) .nilIface)) ∧ Hid (∀ L, visits ks D.cells <+: L → FoIn wr (w.heap.size + 1) (D.map (renI L)) ns) ∧ Hid (w.grownBy wr (some mb)) ∧ w.heap.size + 1 ≤ wr.heap.size) (fun i _ => q - (intOf i).toNat)
    case atStart => exact ⟨.nil, k, [], vs, [], 0, Nat.zero_le _, rfl, ⟨rfl, rfl, rfl, rfl⟩, HC.out.2.2.2.2.2.2, HS1, HO1, fun L _ => rfl, HG1, hs1⟩
    case round =>
     obtain ⟨D, R, us, vs2, ns, j, hj, rfl, HF, HR, HST, HO, HFO, HG, hsz⟩ := hrel; have hwr : Below w0.heap.size w0 wr := HW.out.trans (grown_below HG.out HW.out.size hmb)
     by_cases hlt : j < q
     ·obtain ⟨c', k', r', rfl⟩ : ∃ c' k' r', R = .node c' k' r' := by
       cases R with
       | nil =>
         have h1 := HF.out; have h2 : vs2 = [] := HR.out; have h3 := HE.out.1; rw [h1.2.1, h2, List.append_nil] at h3
         omega
       | node c' k' r' => exact ⟨c', k', r', rfl⟩
      obtain ⟨v, vr, rfl, hnode, hrest⟩ := HR.out; have hok2 := (Fo.ok_cat D (.node c' k' r')).1 (HF.out.1 ▸ HK.out)
      have hl2 : D.cells.length + (k'.cells.length + r'.cells.length + 1) = k.cells.length := by
       rw [HF.out.1, Fo.cells_cat]; simp [Fo.cells]
      have hat : w0.cell? ⟨g, j, none⟩ = some v := by
       rw [HC.out.2.2.2.2.2.1 j (by rw [← HE.out.1]; exact hlt), HF.out.2.1]
       simp [List.getD, HF.out.2.2.1]
      have c5 : wr.cell? ⟨g, j, none⟩ = some v := (hwr.cell (World.block_lt_of_cell? _ _ hat)).trans hat; have HRC := HIH.out k'.cells.length (by omega) c' k' v nb mb (visits ks D.cells) w0 wr (Nat.le_refl _) ⟨hok2.2.1, hok2.2.2.1, hok2.2.2.2.1, hok2.2.2.2.2.1, hok2.2.2.2.2.2.1, trivial⟩ ⟨v, [], rfl, hnode, rfl⟩ hwr hmb HST.out (by have := visits_len D.cells ks; omega); obtain ⟨vt, vx, rfl⟩ := hnode.iface; have HRR : Hid (FoC w0 r' vr) := hrest; clear hok2 hl2 hat hwr hnode hrest HIH; go_wp2_with fail; refine HRC.mono ?_; rintro e w3 ⟨v3, rfl, hst3, hg3, hfo3⟩; obtain ⟨nt, nx, rfl⟩ := (hfo3 _ List.prefix_rfl).iface; have hbG : w3.heap[w.heap.size]? = wr.heap[w.heap.size]? := hg3.block w.heap.size (by omega) (fun e => by have := Option.some.inj e; omega)
      have e0 : w3.cell? ⟨w.heap.size, j, none⟩ = some .nilIface := by
       rw [World.cell?_of_block (w := wr) (a := ⟨w.heap.size, j, none⟩) hbG, HO.out.cellAt j (by omega), List.getElem?_append_right (by have := HF.out.2.2.2; omega), List.getElem?_replicate, if_pos (by have := HF.out.2.2.2; omega)]
      have e1 : w3.frozen? ⟨w.heap.size, j, none⟩ = false := (World.frozen?_of_block (w := wr) (a := ⟨w.heap.size, j, none⟩) hbG).trans (HO.out.frozenAt j); have HO3 : Hid (w3.ownsRow w.heap.size 58 1 (.slice (some ⟨w.heap.size, 0, none⟩) q q) q (ns ++ List.replicate (q - j) .nilIface)) := HO.out.kept hg3 (.inr (fun e => by have := Option.some.inj e; simp at this; omega))
      have HN : Hid (k = (D.cat (.node c' k' .nil)).cat r' ∧ vs = (us ++ [Value.iface vt vx]) ++ vr ∧ (us ++ [Value.iface vt vx]).length = j + 1 ∧ (ns ++ [Value.iface nt nx]).length = j + 1) := ⟨by rw [Fo.cat_assoc]; exact HF.out.1, by rw [HF.out.2.1]; simp, by simp [HF.out.2.2.1], by simp [HF.out.2.2.2]⟩
      have hvis : visits ks (D.cat (.node c' k' .nil)).cells = visits (visits ks D.cells) (c' :: k'.cells) := by rw [Fo.cells_cat, visits_append]; simp [Fo.cells]
      have HV3 : Hid (RState (w3.setCell ⟨w.heap.size, j, none⟩ (.iface nt nx)) nb mb (visits ks (D.cat (.node c' k' .nil)).cells)) := by
       rw [hvis]; exact ⟨(World.cell?_setCell_other _ _ _ _ (fun e => by have := congrArg Addr.block e; simp at this; omega)).trans hst3.ncell, hst3.map.of_block (Below.heap_setCell _ _ _ _ (show mb ≠ w.heap.size by omega))⟩
      have HF3 : Hid (∀ L, visits ks (D.cat (.node c' k' .nil)).cells <+: L → FoIn (w3.setCell ⟨w.heap.size, j, none⟩ (.iface nt nx)) (w.heap.size + 1) ((D.cat (.node c' k' .nil)).map (renI L)) (ns ++ [Value.iface nt nx])) := fun L hL => by
       rw [hvis] at hL; rw [Fo.map_cat]; exact (FoIn.cat _ _ _ _ ((HFO.out L ((visits_prefix _ _).trans hL)).kept hg3 (by omega)) ((hfo3 L hL).mono hsz)).setCell (show w.heap.size < w.heap.size + 1 by omega) _
      have HG3 : Hid (w.grownBy (w3.setCell ⟨w.heap.size, j, none⟩ (.iface nt nx)) (some mb)) := grown_setR (HG.out.trans hg3) (Nat.le_refl _) _; have hsz3 : w.heap.size + 1 ≤ w3.heap.size := Nat.le_trans hsz hg3.size; clear hst3 hg3 hfo3 hvis HRC hbG; go_wp2_with fail; go_roundw
      case rel => exact ⟨D.cat (.node c' k' .nil), r', us ++ [Value.iface vt vx], vr, ns ++ [Value.iface nt nx], j + 1, by omega, by go_num, HN, HRR, HV3, row_next HO3.out HF.out.2.2.2 hlt _, HF3, HG3, by simpa using hsz3⟩
      case measure => simp [intOf]; omega
     ·obtain rfl : j = q := by omega
      obtain rfl : R = .nil := by
       have h1 := FoC.count _ _ HR.out; have h2 := HE.out; rw [HF.out.2.1, List.length_append] at h2; have h3 := HF.out.2.2.1
       cases R with
       | nil => rfl
       | node a b d => simp [Fo.count] at h1; omega
      have hD : D = k := by have := HF.out.1; rw [Fo.cat_nil] at this; exact this.symm
      subst hD
      have x0 : wr.cell? ⟨b, 0, none⟩ = some (.string str) := by
       rw [HES.out]; exact (hwr.cell (World.block_lt_of_cell? _ _ HC.out.2.2.1)).trans HC.out.2.2.1
      have hns := HF.out.2.2.2; have HNS : Hid (ns.length = j) := hns
      have HFIN : Hid (ReplOut w nb mb ks c D (.returned (.iface 139 (.pointer (some ⟨wr.heap.size, 0, none⟩)))) (wr.alloc (Obj.cells #[Value.string str, Value.slice (some ⟨w.heap.size, 0, none⟩) j j] 141))) := by
       have hal : Below wr.heap.size wr (wr.alloc (Obj.cells #[Value.string str, Value.slice (some ⟨w.heap.size, 0, none⟩) j j] 141)) := (Below.refl _ _).alloc (Nat.le_refl _) _; refine ⟨_, rfl, by rw [HV0.out]; exact HST.out.below hal, grown_alloc HG.out _, fun L hL => ?_⟩; rw [HV0.out] at hL; have hnew := heap_alloc_new wr (Obj.cells #[Value.string str, Value.slice (some ⟨w.heap.size, 0, none⟩) j j] 141); refine ⟨_, [], rfl, .inr (.inr (.inr ⟨by rw [renI_kind]; exact H0.out, wr.heap.size, w.heap.size, ns, rfl, by omega, Nat.le_refl _, by rw [renI_text, ← HES.out]; exact cell_of_row _ _ 0 _ _ _ hnew, by rw [hns]; exact cell_of_row _ _ 1 _ _ _ hnew, by simp; omega, fun i hi => ?_, ?_⟩)), rfl⟩
       ·refine Lib.cell?_alloc_marked _ ?_
        rw [HO.out.cellAt i (by omega), List.getElem?_append_left (by omega)]
        simp [List.getD, hi]
       ·exact ((HFO.out L hL).below hal).mono (by omega)
      clear hns; go_wp2_with fail; go_ret; exact HFIN.out
def ReplTop (w : World) (nb mb : Nat) (ks : List Int) (c : Cel) (k : Fo) (e : Ending) (w' : World) : Prop :=
 ∃ b g us, e = .returned (.iface 139 (.pointer (some ⟨b, 0, none⟩))) ∧ RState w' nb mb (visits ks (c :: k.cells)) ∧ w.grownBy w' (some mb) ∧ w'.cell? ⟨b, 1, none⟩ = some (.slice (some ⟨g, 0, none⟩) us.length us.length) ∧ w.heap.size ≤ g ∧ g < w'.heap.size ∧
   (∀ i, i < us.length → w'.cell? ⟨g, i, none⟩ = some (us.getD i .nilIface) ∧ w'.frozen? ⟨g, i, none⟩ = false) ∧ ∀ L, visits ks (c :: k.cells) <+: L → FoIn w' (g + 1) (k.map (renI L)) us
set_option maxHeartbeats 1000000 in
theorem replaceT_any (c : Cel) (k : Fo) (v : Value) (nb mb : Nat) (ks : List Int) (w0 w : World) (h3 : c.1 = 3) (hok : (Fo.node c k .nil).ok) (hfo : FoC w0 (.node c k .nil) [v]) (hw : Below w0.heap.size w0 w) (hmb : w0.heap.size ≤ mb) (hs : RState w nb mb ks) (hlen : ks.length + 1 + k.cells.length ≤ 100000) :
  Calls Tryz.prog 144 #[v, .func (.func 254) #[] #[.pointer (some ⟨nb, 0, none⟩)]] w (ReplTop w nb mb ks c k) := by
 obtain ⟨v', vr, e, hnode, _⟩ := hfo; obtain ⟨rfl, rfl⟩ := List.cons.inj e; have hN : k.cells.length ≤ k.cells.length := Nat.le_refl _
 obtain ⟨h0, b, g, cq, vs, rfl, hcomp⟩ : c.1 = 3 ∧ ∃ b g cq vs, v = .iface 139 (.pointer (some ⟨b, 0, none⟩)) ∧ True ∧ True ∧ w0.cell? ⟨b, 0, none⟩ = some (.string (strOfNums c.2.2)) ∧ w0.cell? ⟨b, 1, none⟩ = some (.slice (some ⟨g, 0, none⟩) vs.length cq) ∧ g < w0.heap.size ∧ (∀ i, i < vs.length → w0.cell? ⟨g, i, none⟩ = some (vs.getD i .nilIface)) ∧ FoC w0 k vs := by
  rcases hnode with ⟨h, _⟩ | ⟨h, _⟩ | ⟨h, _⟩ | h
  ·rw [h3] at h; cases h
  ·rw [h3] at h; cases h
  ·rw [h3] at h; cases h
  ·exact h
 clear e; have n1 := noVar_comp; have n2 := isComp; have HC : Hid _ := hcomp; have hvl2 : vs.length = k.count := FoC.count _ _ hcomp.2.2.2.2.2.2
 obtain ⟨q, eq⟩ : ∃ q, q = vs.length := ⟨_, rfl⟩
 have HE : Hid (q = vs.length ∧ vs.length = k.count) := ⟨eq, hvl2⟩
 have hq : q ≤ 100000 := by have := Fo.count_le k; omega
 have HK : Hid k.ok := hok.2.2.2.2.1; have d0 := (hw.cell (World.block_lt_of_cell? _ _ hcomp.2.2.1)).trans hcomp.2.2.1; have d1 := (hw.cell (World.block_lt_of_cell? _ _ hcomp.2.2.2.1)).trans hcomp.2.2.2.1; rw [← eq] at d1; have HBB : Hid (b < w0.heap.size) := World.block_lt_of_cell? _ _ hcomp.2.2.1
 have hv0 : visitL ks c = ks := by rw [visitL, if_neg (by rw [h0]; decide)]
 have HV0 : Hid (∀ cs, visits ks (c :: cs) = visits ks cs) := fun cs => by rw [visits_cons, hv0]
 have HS : Hid (RState w nb mb ks) := hs; have HW : Hid (Below w0.heap.size w0 w) := hw
 have HIH : Hid _ := fun (m : Nat) (_ : m < k.cells.length) => replaceC_any m
 have hml := hs.map.lt; have hnl : nb < w.heap.size := World.block_lt_of_cell? _ _ hs.ncell
 have HREN : Hid (∀ L, renI L c = c) := fun L => by rw [renI, if_neg (by rw [h0]; decide)]
 have H0 : Hid (c.1 = 3) := h0
 obtain ⟨str, es⟩ : ∃ str, str = strOfNums c.2.2 := ⟨_, rfl⟩
 rw [← es] at d0; have HES : Hid (str = strOfNums c.2.2) := es; obtain ⟨i0, hi, hz0, hz1, hz2⟩ := info_parts infoTerm
 have hmx : q ≤ maxLen := by unfold maxLen; omega
 clear hok hw hs hcomp eq hvl2 hv0 es h0
 go_enter Tryz.func144, Tryz.ntmps144
 go_wp2_with (at_make; refine wpList_make_full _ rfl _ _ 83 rfl w.heap.size 58 i0 .nilIface 1 Tryz.underlying83 hi hz0 hz1 _ _ _ _ q rfl rfl rfl rfl (by rw [hz2]; omega) hmx (Nat.le_refl _) ?_; intro w1 hown hgrow; have d0' := ((World.cell?_of_block (w := w) (a := ⟨b, 0, none⟩) (hgrow.block b (World.block_lt_of_cell? _ _ d0) (fun h => by cases h)))).trans d0; have d1' := ((World.cell?_of_block (w := w) (a := ⟨b, 1, none⟩) (hgrow.block b (World.block_lt_of_cell? _ _ d1) (fun h => by cases h)))).trans d1)
 have HO1 : Hid (w1.ownsRow w.heap.size 58 1 (.slice (some ⟨w.heap.size, 0, none⟩) q q) q ([] ++ List.replicate (q - 0) .nilIface)) := by
  have := hown
  simp [Value.cells, toList_madeCells_one] at this
  exact this
 have HG1 : Hid (w.grownBy w1 (some mb)) := ⟨hgrow.os, hgrow.tape, hgrow.output, hgrow.size, fun k hk _ => hgrow.block k hk (fun h => by cases h)⟩
 have HS1 : Hid (RState w1 nb mb ks) := HS.out.below ((Below.refl _ _).grown hgrow (Nat.le_refl _) (fun k h => by cases h))
 have hs1 : w.heap.size + 1 ≤ w1.heap.size := by have := (hown.lt w.heap.size rfl).2; omega
 clear hown hgrow hi hz0 hz1 hz2 d0 d1 d0' d1'
 go_loopw [31] (fun i wr => ∃ (D R : Fo) (us vs2 ns : List Value) (j : Nat), j ≤ q ∧ i = .int .i64 j ∧ Hid (k = D.cat R ∧ vs = us ++ vs2 ∧ us.length = j ∧ ns.length = j) ∧ Hid (FoC w0 R vs2) ∧ Hid (RState wr nb mb (visits ks D.cells)) ∧
  Hid (wr.ownsRow w.heap.size 58 1 (.slice (some ⟨w.heap.size, 0, none⟩) q q) q (ns ++ List.replicate (q - j) .nilIface)) ∧ Hid (∀ L, visits ks D.cells <+: L → FoIn wr (w.heap.size + 1) (D.map (renI L)) ns) ∧ Hid (w.grownBy wr (some mb)) ∧ w.heap.size + 1 ≤ wr.heap.size) (fun i _ => q - (intOf i).toNat)
 case atStart => exact ⟨.nil, k, [], vs, [], 0, Nat.zero_le _, rfl, ⟨rfl, rfl, rfl, rfl⟩, HC.out.2.2.2.2.2.2, HS1, HO1, fun L _ => rfl, HG1, hs1⟩
 case round =>
  obtain ⟨D, R, us, vs2, ns, j, hj, rfl, HF, HR, HST, HO, HFO, HG, hsz⟩ := hrel; have hwr : Below w0.heap.size w0 wr := HW.out.trans (grown_below HG.out HW.out.size hmb)
  by_cases hlt : j < q
  ·obtain ⟨c', k', r', rfl⟩ : ∃ c' k' r', R = .node c' k' r' := by
    cases R with
    | nil =>
      have h1 := HF.out; have h2 : vs2 = [] := HR.out; have h3 := HE.out.1; rw [h1.2.1, h2, List.append_nil] at h3
      omega
    | node c' k' r' => exact ⟨c', k', r', rfl⟩
   obtain ⟨v, vr, rfl, hnode, hrest⟩ := HR.out; have hok2 := (Fo.ok_cat D (.node c' k' r')).1 (HF.out.1 ▸ HK.out)
   have hl2 : D.cells.length + (k'.cells.length + r'.cells.length + 1) = k.cells.length := by
    rw [HF.out.1, Fo.cells_cat]; simp [Fo.cells]
   have hat : w0.cell? ⟨g, j, none⟩ = some v := by
    rw [HC.out.2.2.2.2.2.1 j (by rw [← HE.out.1]; exact hlt), HF.out.2.1]
    simp [List.getD, HF.out.2.2.1]
   have c5 : wr.cell? ⟨g, j, none⟩ = some v := (hwr.cell (World.block_lt_of_cell? _ _ hat)).trans hat; have HRC := HIH.out k'.cells.length (by omega) c' k' v nb mb (visits ks D.cells) w0 wr (Nat.le_refl _) ⟨hok2.2.1, hok2.2.2.1, hok2.2.2.2.1, hok2.2.2.2.2.1, hok2.2.2.2.2.2.1, trivial⟩ ⟨v, [], rfl, hnode, rfl⟩ hwr hmb HST.out (by have := visits_len D.cells ks; omega); obtain ⟨vt, vx, rfl⟩ := hnode.iface; have HRR : Hid (FoC w0 r' vr) := hrest; clear hok2 hl2 hat hwr hnode hrest HIH; go_wp2_with fail; refine HRC.mono ?_; rintro e w3 ⟨v3, rfl, hst3, hg3, hfo3⟩; obtain ⟨nt, nx, rfl⟩ := (hfo3 _ List.prefix_rfl).iface; have hbG : w3.heap[w.heap.size]? = wr.heap[w.heap.size]? := hg3.block w.heap.size (by omega) (fun e => by have := Option.some.inj e; omega)
   have e0 : w3.cell? ⟨w.heap.size, j, none⟩ = some .nilIface := by
    rw [World.cell?_of_block (w := wr) (a := ⟨w.heap.size, j, none⟩) hbG, HO.out.cellAt j (by omega), List.getElem?_append_right (by have := HF.out.2.2.2; omega), List.getElem?_replicate, if_pos (by have := HF.out.2.2.2; omega)]
   have e1 : w3.frozen? ⟨w.heap.size, j, none⟩ = false := (World.frozen?_of_block (w := wr) (a := ⟨w.heap.size, j, none⟩) hbG).trans (HO.out.frozenAt j); have HO3 : Hid (w3.ownsRow w.heap.size 58 1 (.slice (some ⟨w.heap.size, 0, none⟩) q q) q (ns ++ List.replicate (q - j) .nilIface)) := HO.out.kept hg3 (.inr (fun e => by have := Option.some.inj e; simp at this; omega))
   have HN : Hid (k = (D.cat (.node c' k' .nil)).cat r' ∧ vs = (us ++ [Value.iface vt vx]) ++ vr ∧ (us ++ [Value.iface vt vx]).length = j + 1 ∧ (ns ++ [Value.iface nt nx]).length = j + 1) := ⟨by rw [Fo.cat_assoc]; exact HF.out.1, by rw [HF.out.2.1]; simp, by simp [HF.out.2.2.1], by simp [HF.out.2.2.2]⟩
   have hvis : visits ks (D.cat (.node c' k' .nil)).cells = visits (visits ks D.cells) (c' :: k'.cells) := by rw [Fo.cells_cat, visits_append]; simp [Fo.cells]
   have HV3 : Hid (RState (w3.setCell ⟨w.heap.size, j, none⟩ (.iface nt nx)) nb mb (visits ks (D.cat (.node c' k' .nil)).cells)) := by
    rw [hvis]; exact ⟨(World.cell?_setCell_other _ _ _ _ (fun e => by have := congrArg Addr.block e; simp at this; omega)).trans hst3.ncell, hst3.map.of_block (Below.heap_setCell _ _ _ _ (show mb ≠ w.heap.size by omega))⟩
   have HF3 : Hid (∀ L, visits ks (D.cat (.node c' k' .nil)).cells <+: L → FoIn (w3.setCell ⟨w.heap.size, j, none⟩ (.iface nt nx)) (w.heap.size + 1) ((D.cat (.node c' k' .nil)).map (renI L)) (ns ++ [Value.iface nt nx])) := fun L hL => by
    rw [hvis] at hL; rw [Fo.map_cat]; exact (FoIn.cat _ _ _ _ ((HFO.out L ((visits_prefix _ _).trans hL)).kept hg3 (by omega)) ((hfo3 L hL).mono hsz)).setCell (show w.heap.size < w.heap.size + 1 by omega) _
   have HG3 : Hid (w.grownBy (w3.setCell ⟨w.heap.size, j, none⟩ (.iface nt nx)) (some mb)) := grown_setR (HG.out.trans hg3) (Nat.le_refl _) _; have hsz3 : w.heap.size + 1 ≤ w3.heap.size := Nat.le_trans hsz hg3.size; clear hst3 hg3 hfo3 hvis HRC hbG; go_wp2_with fail; go_roundw
   case rel => exact ⟨D.cat (.node c' k' .nil), r', us ++ [Value.iface vt vx], vr, ns ++ [Value.iface nt nx], j + 1, by omega, by go_num, HN, HRR, HV3, row_next HO3.out HF.out.2.2.2 hlt _, HF3, HG3, by simpa using hsz3⟩
   case measure => simp [intOf]; omega
  ·obtain rfl : j = q := by omega
   obtain rfl : R = .nil := by
    have h1 := FoC.count _ _ HR.out; have h2 := HE.out; rw [HF.out.2.1, List.length_append] at h2; have h3 := HF.out.2.2.1
    cases R with
    | nil => rfl
    | node a b d => simp [Fo.count] at h1; omega
   have hD : D = k := by have := HF.out.1; rw [Fo.cat_nil] at this; exact this.symm
   subst hD
   have x0 : wr.cell? ⟨b, 0, none⟩ = some (.string str) := by
    rw [HES.out]; exact (hwr.cell (World.block_lt_of_cell? _ _ HC.out.2.2.1)).trans HC.out.2.2.1
   have hns := HF.out.2.2.2; have HNS : Hid (ns.length = j) := hns
   have HFIN : Hid (ReplTop w nb mb ks c D (.returned (.iface 139 (.pointer (some ⟨wr.heap.size, 0, none⟩)))) (wr.alloc (Obj.cells #[Value.string str, Value.slice (some ⟨w.heap.size, 0, none⟩) j j] 141))) := by
    have hal : Below wr.heap.size wr (wr.alloc (Obj.cells #[Value.string str, Value.slice (some ⟨w.heap.size, 0, none⟩) j j] 141)) := (Below.refl _ _).alloc (Nat.le_refl _) _; have hnew := heap_alloc_new wr (Obj.cells #[Value.string str, Value.slice (some ⟨w.heap.size, 0, none⟩) j j] 141); have hblk := hal.block w.heap.size (by omega); refine ⟨wr.heap.size, w.heap.size, ns, rfl, by rw [HV0.out]; exact HST.out.below hal, grown_alloc HG.out _, by rw [hns]; exact cell_of_row _ _ 1 _ _ _ hnew, Nat.le_refl _, by simp; omega, fun i hi => ⟨?_, ?_⟩, fun L hL => ?_⟩
    ·rw [World.cell?_of_block (a := ⟨w.heap.size, i, none⟩) hblk, HO.out.cellAt i (by omega), List.getElem?_append_left (by omega)]
     simp [List.getD, hi]
    ·exact (World.frozen?_of_block (a := ⟨w.heap.size, i, none⟩) hblk).trans (HO.out.frozenAt i)
    ·rw [HV0.out] at hL
     exact (HFO.out L hL).below hal
   clear hns; go_wp2_with fail; go_ret; exact HFIN.out
def RenTop (w : World) (c : Cel) (k : Fo) (e : Ending) (w' : World) : Prop :=
 ∃ b g us, e = .returned (.iface 139 (.pointer (some ⟨b, 0, none⟩))) ∧ w'.cell? ⟨b, 1, none⟩ = some (.slice (some ⟨g, 0, none⟩) us.length us.length) ∧ w.heap.size ≤ g ∧ g < w'.heap.size ∧ (∀ i, i < us.length → w'.cell? ⟨g, i, none⟩ = some (us.getD i .nilIface) ∧ w'.frozen? ⟨g, i, none⟩ = false) ∧
   FoIn w' (g + 1) (k.map (renI (visits [] (c :: k.cells)))) us ∧ Below w.heap.size w w'
set_option maxHeartbeats 1000000 in
theorem renumberT_any (c : Cel) (k : Fo) (v : Value) (w : World) (h3 : c.1 = 3) (hok : (Fo.node c k .nil).ok) (hfo : FoC w (.node c k .nil) [v]) (hl : k.cells.length ≤ 10000) :
  Calls Tryz.prog 201 #[v] w (RenTop w c k) := by
 have hmm := @run_makeMap Tryz.prog; obtain ⟨vt, vx, rfl⟩ := hfo.iface; have hW : Below w.heap.size w ((w.alloc (Obj.map #[] 0)).alloc (Obj.cells #[Value.map (some w.heap.size)] 191)) := ((Below.refl _ _).alloc (Nat.le_refl _) _).alloc (by simp) _; have hnew := heap_alloc_new (w.alloc (Obj.map #[] 0)) (Obj.cells #[Value.map (some w.heap.size)] 191)
 have e1 : (w.alloc (Obj.map #[] 0)).heap.size = w.heap.size + 1 := by simp
 rw [e1] at hnew
 have hS : RState ((w.alloc (Obj.map #[] 0)).alloc (Obj.cells #[Value.map (some w.heap.size)] 191)) (w.heap.size + 1) w.heap.size [] := ⟨cell_of_row _ _ 0 _ _ _ hnew, (NumMap.made w).of_block (Below.heap_alloc _ _ _ (by simp))⟩
 have HR := replaceT_any c k _ (w.heap.size + 1) w.heap.size [] w _ h3 hok hfo hW (Nat.le_refl _) hS (by simp; omega); have HW : Hid _ := hW; clear hok hfo hS hW hnew e1
 go_enter Tryz.func201, Tryz.ntmps201
 go_wp2_with fail; refine HR.mono ?_; rintro e w1 ⟨b, g, us, rfl, hst, hg, hc1, hgl, hgh, hrow, hf⟩
 have HF : Hid (RenTop w c k (.returned (.iface 139 (.pointer (some ⟨b, 0, none⟩)))) w1) := ⟨b, g, us, rfl, hc1, by simp at hgl; omega, hgh, hrow, hf _ List.prefix_rfl, HW.out.trans (grown_below hg (by simp; omega) (Nat.le_refl _))⟩
 clear hf hst hg HR hc1 hrow; go_wp2_with fail; go_ret; exact HF.out
def VS (w : World) (vb : Nat) (L : List Int) : Prop := ∃ p c, w.cell? ⟨vb, 0, none⟩ = some (.slice p L.length c) ∧ IIn w p L
theorem VS.below {w w' : World} {vb : Nat} {L : List Int} (h : VS w vb L) (hb : Below w.heap.size w w') : VS w' vb L := by
 obtain ⟨p, c, h0, h1⟩ := h; refine ⟨p, c, (hb.cell (World.block_lt_of_cell? _ _ h0)).trans h0, fun hn => ?_⟩; obtain ⟨b, o, e, hc⟩ := h1 hn; exact ⟨b, o, e, fun i hi => (hb.cell (World.block_lt_of_cell? _ _ (hc i hi))).trans (hc i hi)⟩
def lkI (L : List Int) (c : Cel) : Cel := if c.1 = 0 then (c.1, L.getD c.2.1.toNat 0, c.2.2) else c
theorem lkI_kind (L : List Int) (c : Cel) : (lkI L c).1 = c.1 := by unfold lkI; split <;> rfl
theorem lkI_text (L : List Int) (c : Cel) : (lkI L c).2.2 = c.2.2 := by unfold lkI; split <;> rfl
theorem lookV_any (x : Int) (vb : Nat) (L : List Int) (w : World) (h0 : 0 ≤ x) (h1 : x < L.length) (hl : L.length ≤ 1000000) (hs : VS w vb L) :
  Calls Tryz.prog 224 #[.int .i64 x, .pointer (some ⟨vb, 0, none⟩)] w fun e w' => e = .returned (.iface 82 (.int .i64 (L.getD x.toNat 0))) ∧ Below w.heap.size w w' := by
 obtain ⟨p, c, c0, hin⟩ := hs; obtain ⟨b, o, rfl, hc⟩ := hin (by omega)
 obtain ⟨i, rfl⟩ : ∃ i : Nat, x = i := ⟨x.toNat, by omega⟩
 have hi : i < L.length := by omega
 have c1 := hc i hi; simp only [Int.toNat_natCast]
 obtain ⟨v, ev⟩ : ∃ v, v = L.getD i 0 := ⟨_, rfl⟩
 rw [← ev] at c1 ⊢
 obtain ⟨n, en⟩ : ∃ n, n = L.length := ⟨_, rfl⟩
 rw [← en] at c0 h1 hl hi; clear hc hin ev en
 go_enter Tryz.func224, Tryz.ntmps224
 go_wp2_with fail; go_ret; exact ⟨rfl, Below.refl _ _⟩
def ReplV (w : World) (vb : Nat) (L : List Int) (c : Cel) (k : Fo) (e : Ending) (w' : World) : Prop :=
 ∃ v, e = .returned v ∧ Below w.heap.size w w' ∧ FoIn w' w.heap.size (.node (lkI L c) (k.map (lkI L)) .nil) [v]
set_option maxHeartbeats 1000000 in
theorem replaceV_any : ∀ (N : Nat) (c : Cel) (k : Fo) (v : Value) (Bt vb : Nat) (L : List Int) (w0 w : World), k.cells.length ≤ N → (Fo.node c k .nil).ok → FoIn w0 Bt (.node c k .nil) [v] → Below w0.heap.size w0 w → VS w0 vb L → (∀ x ∈ c :: k.cells, x.1 = 0 → x.2.1 < L.length) → L.length ≤ 1000000 → k.cells.length ≤ 100000 →
  Calls Tryz.prog 144 #[v, .func (.func 224) #[] #[.pointer (some ⟨vb, 0, none⟩)]] w (ReplV w vb L c k) := by
 intro N
 induction N using Nat.strongRecOn with
 | _ N ih =>
   intro c k v Bt vb L w0 w hN hok hfo hw hs hvar hLl hlen
   obtain ⟨v', vr, e, hnode, _⟩ := hfo; obtain ⟨rfl, rfl⟩ := List.cons.inj e
   rcases hnode with ⟨h0, rfl⟩ | ⟨h0, rfl⟩ | ⟨h0, rfl⟩ | ⟨h0, b, g, vs, rfl, hcomp⟩
   ·have hk : k = .nil := hok.2.2.2.1 (by rw [h0]; decide)
    subst hk
    have hx : 0 ≤ c.2.1 := by have := hok.1; rw [h0] at this; simp [cellB] at this; omega
    have HW := lookV_any c.2.1 vb L w hx (hvar c (by simp) h0) hLl (hs.below hw)
    have HF : Hid (∀ w', Below w.heap.size w w' → ReplV w vb L c .nil (.returned (.iface 82 (.int .i64 (L.getD c.2.1.toNat 0)))) w') := fun w' h2 =>
     ⟨_, rfl, h2, _, [], rfl, .inl ⟨by rw [lkI_kind]; exact h0, by rw [lkI, if_pos h0]⟩, rfl⟩
    obtain ⟨x, ex⟩ : ∃ x, x = c.2.1 := ⟨_, rfl⟩
    obtain ⟨ix, ei⟩ : ∃ ix, ix = L.getD c.2.1.toNat 0 := ⟨_, rfl⟩
    rw [← ei] at HW HF; rw [← ex] at HW ⊢; have n1 := isVar; clear ih hok hw hs hx ex ei e hlen hvar
    go_enter Tryz.func144, Tryz.ntmps144
    go_wp2_with fail; refine HW.mono ?_; rintro e w1 ⟨rfl, h2⟩; go_wp2_with fail; go_ret; exact HF.out _ h2
   ·have hk : k = .nil := hok.2.2.2.1 (by rw [h0]; decide)
    subst hk; have n1 := noVar_num; have n2 := noComp_num
    have HF : Hid (ReplV w vb L c .nil (.returned (.iface 150 (.int .i64 c.2.1))) w) := ⟨_, rfl, Below.refl _ _, _, [], rfl, .inr (.inl ⟨by rw [lkI_kind]; exact h0, by rw [lkI, if_neg (by rw [h0]; decide)]⟩), rfl⟩
    obtain ⟨x, ex⟩ : ∃ x, x = Value.int .i64 c.2.1 := ⟨_, rfl⟩
    rw [← ex] at HF ⊢; clear ih hok hw hs ex e hlen hvar
    go_enter Tryz.func144, Tryz.ntmps144
    go_wp2_with fail; go_ret; exact HF.out
   ·have hk : k = .nil := hok.2.2.2.1 (by rw [h0]; decide)
    subst hk; have n1 := noVar_atom; have n2 := noComp_atom
    have HF : Hid (ReplV w vb L c .nil (.returned (.iface 94 (.string (strOfNums c.2.2)))) w) := ⟨_, rfl, Below.refl _ _, _, [], rfl, .inr (.inr (.inl ⟨by rw [lkI_kind]; exact h0, by rw [lkI, if_neg (by rw [h0]; decide)]⟩)), rfl⟩
    obtain ⟨x, ex⟩ : ∃ x, x = Value.string (strOfNums c.2.2) := ⟨_, rfl⟩
    rw [← ex] at HF ⊢; clear ih hok hw hs ex e hlen hvar
    go_enter Tryz.func144, Tryz.ntmps144
    go_wp2_with fail; go_ret; exact HF.out
   ·have n1 := noVar_comp
    have n2 := isComp; have HC : Hid (CompAt w0 Bt c.2.2 k b g vs) := hcomp; have hvl2 : vs.length = k.count := FoIn.count _ _ hcomp.2.2.2.2.2.2
    obtain ⟨q, eq⟩ : ∃ q, q = vs.length := ⟨_, rfl⟩
    have HE : Hid (q = vs.length ∧ vs.length = k.count) := ⟨eq, hvl2⟩
    have hq : q ≤ 100000 := by have := Fo.count_le k; omega
    have HK : Hid k.ok := hok.2.2.2.2.1; have d0 := (hw.cell (World.block_lt_of_cell? _ _ hcomp.2.2.1)).trans hcomp.2.2.1; have d1 := (hw.cell (World.block_lt_of_cell? _ _ hcomp.2.2.2.1)).trans hcomp.2.2.2.1; rw [← eq] at d1; have HVS : Hid (VS w0 vb L) := hs; have HVA : Hid (∀ x ∈ c :: k.cells, x.1 = 0 → x.2.1 < L.length) := hvar; have HW : Hid (Below w0.heap.size w0 w) := hw; have HIH : Hid _ := ih
    have HREN : Hid (lkI L c = c) := by show _ = _; rw [lkI, if_neg (by rw [h0]; decide)]
    have H0 : Hid (c.1 = 3) := h0
    obtain ⟨str, es⟩ : ∃ str, str = strOfNums c.2.2 := ⟨_, rfl⟩
    rw [← es] at d0; have HES : Hid (str = strOfNums c.2.2) := es; obtain ⟨i0, hi, hz0, hz1, hz2⟩ := info_parts infoTerm
    have hmx : q ≤ maxLen := by unfold maxLen; omega
    have hws := hw.size; clear ih hok hw hs e hcomp eq hvl2 es h0 hvar
    go_enter Tryz.func144, Tryz.ntmps144
    go_wp2_with (at_make; refine wpList_make_full _ rfl _ _ 83 rfl w.heap.size 58 i0 .nilIface 1 Tryz.underlying83 hi hz0 hz1 _ _ _ _ q rfl rfl rfl rfl (by rw [hz2]; omega) hmx (Nat.le_refl _) ?_; intro w1 hown hgrow; have d0' := ((World.cell?_of_block (w := w) (a := ⟨b, 0, none⟩) (hgrow.block b (World.block_lt_of_cell? _ _ d0) (fun h => by cases h)))).trans d0; have d1' := ((World.cell?_of_block (w := w) (a := ⟨b, 1, none⟩) (hgrow.block b (World.block_lt_of_cell? _ _ d1) (fun h => by cases h)))).trans d1)
    have HO1 : Hid (w1.ownsRow w.heap.size 58 1 (.slice (some ⟨w.heap.size, 0, none⟩) q q) q ([] ++ List.replicate (q - 0) .nilIface)) := by
     have := hown
     simp [Value.cells, toList_madeCells_one] at this
     exact this
    have HG1 : Hid (Below w.heap.size w w1) := (Below.refl _ _).grown hgrow (Nat.le_refl _) (fun k h => by cases h)
    have hs1 : w.heap.size + 1 ≤ w1.heap.size := by have := (hown.lt w.heap.size rfl).2; omega
    clear hown hgrow hi hz0 hz1 hz2 d0 d1 d0' d1'
    go_loopw [31] (fun i wr => ∃ (D R : Fo) (us vs2 ns : List Value) (j : Nat), j ≤ q ∧ i = .int .i64 j ∧ Hid (k = D.cat R ∧ vs = us ++ vs2 ∧ us.length = j ∧ ns.length = j) ∧ Hid (FoIn w0 Bt R vs2) ∧
     Hid (wr.ownsRow w.heap.size 58 1 (.slice (some ⟨w.heap.size, 0, none⟩) q q) q (ns ++ List.replicate (q - j) .nilIface)) ∧ Hid (FoIn wr (w.heap.size + 1) (D.map (lkI L)) ns) ∧ Hid (Below w.heap.size w wr) ∧ w.heap.size + 1 ≤ wr.heap.size) (fun i _ => q - (intOf i).toNat)
    case atStart => exact ⟨.nil, k, [], vs, [], 0, Nat.zero_le _, rfl, ⟨rfl, rfl, rfl, rfl⟩, HC.out.2.2.2.2.2.2, HO1, rfl, HG1, hs1⟩
    case round =>
     obtain ⟨D, R, us, vs2, ns, j, hj, rfl, HF, HR, HO, HFO, HG, hsz⟩ := hrel; have hwr : Below w0.heap.size w0 wr := Below.on HW.out HG.out
     by_cases hlt : j < q
     ·obtain ⟨c', k', r', rfl⟩ : ∃ c' k' r', R = .node c' k' r' := by
       cases R with
       | nil =>
         have h1 := HF.out; have h2 : vs2 = [] := HR.out; have h3 := HE.out.1; rw [h1.2.1, h2, List.append_nil] at h3
         omega
       | node c' k' r' => exact ⟨c', k', r', rfl⟩
      obtain ⟨v, vr, rfl, hnode, hrest⟩ := HR.out; have hok2 := (Fo.ok_cat D (.node c' k' r')).1 (HF.out.1 ▸ HK.out)
      have hl2 : D.cells.length + (k'.cells.length + r'.cells.length + 1) = k.cells.length := by
       rw [HF.out.1, Fo.cells_cat]; simp [Fo.cells]
      have hat : w0.cell? ⟨g, j, none⟩ = some v := by
       rw [HC.out.2.2.2.2.2.1 j (by rw [← HE.out.1]; exact hlt), HF.out.2.1]
       simp [List.getD, HF.out.2.2.1]
      have c5 : wr.cell? ⟨g, j, none⟩ = some v := (hwr.cell (World.block_lt_of_cell? _ _ hat)).trans hat
      have hva2 : ∀ x ∈ c' :: k'.cells, x.1 = 0 → x.2.1 < L.length := fun x hx => HVA.out x (by
       rw [HF.out.1, Fo.cells_cat]; simp only [Fo.cells, List.mem_append, List.mem_cons] at hx ⊢; rcases hx with h | h <;> simp [h])
      have HRC := HIH.out k'.cells.length (by omega) c' k' v Bt vb L w0 wr (Nat.le_refl _) ⟨hok2.2.1, hok2.2.2.1, hok2.2.2.2.1, hok2.2.2.2.2.1, hok2.2.2.2.2.2.1, trivial⟩ ⟨v, [], rfl, hnode, rfl⟩ hwr HVS.out hva2 hLl (by omega); obtain ⟨vt, vx, rfl⟩ := hnode.iface; have HRR : Hid (FoIn w0 Bt r' vr) := hrest; clear hok2 hl2 hat hwr hnode hrest HIH hva2; go_wp2_with fail; refine HRC.mono ?_; rintro e w3 ⟨v3, rfl, hg3, hfo3⟩; obtain ⟨nt, nx, rfl⟩ := hfo3.iface; have hbG : w3.heap[w.heap.size]? = wr.heap[w.heap.size]? := hg3.block w.heap.size (by omega)
      have e0 : w3.cell? ⟨w.heap.size, j, none⟩ = some .nilIface := by
       rw [World.cell?_of_block (w := wr) (a := ⟨w.heap.size, j, none⟩) hbG, HO.out.cellAt j (by omega), List.getElem?_append_right (by have := HF.out.2.2.2; omega), List.getElem?_replicate, if_pos (by have := HF.out.2.2.2; omega)]
      have e1 : w3.frozen? ⟨w.heap.size, j, none⟩ = false := (World.frozen?_of_block (w := wr) (a := ⟨w.heap.size, j, none⟩) hbG).trans (HO.out.frozenAt j); have HO3 : Hid (w3.ownsRow w.heap.size 58 1 (.slice (some ⟨w.heap.size, 0, none⟩) q q) q (ns ++ List.replicate (q - j) .nilIface)) := row_below HO.out hg3
      have HN : Hid (k = (D.cat (.node c' k' .nil)).cat r' ∧ vs = (us ++ [Value.iface vt vx]) ++ vr ∧ (us ++ [Value.iface vt vx]).length = j + 1 ∧ (ns ++ [Value.iface nt nx]).length = j + 1) := ⟨by rw [Fo.cat_assoc]; exact HF.out.1, by rw [HF.out.2.1]; simp, by simp [HF.out.2.2.1], by simp [HF.out.2.2.2]⟩
      have HF3 : Hid (FoIn (w3.setCell ⟨w.heap.size, j, none⟩ (.iface nt nx)) (w.heap.size + 1) ((D.cat (.node c' k' .nil)).map (lkI L)) (ns ++ [Value.iface nt nx])) := by
       rw [Hid, Fo.map_cat]; exact (FoIn.cat _ _ _ _ (HFO.out.below hg3) (hfo3.mono hsz)).setCell (show w.heap.size < w.heap.size + 1 by omega) _
      have HG3 : Hid (Below w.heap.size w (w3.setCell ⟨w.heap.size, j, none⟩ (.iface nt nx))) := (Below.on HG.out hg3).trans (show Below w.heap.size w3 (w3.setCell ⟨w.heap.size, j, none⟩ (.iface nt nx)) from ⟨rfl, rfl, rfl, by simp, fun k hk => Below.heap_setCell _ _ _ _ (show k ≠ w.heap.size by omega)⟩); have hsz3 : w.heap.size + 1 ≤ w3.heap.size := Nat.le_trans hsz hg3.size; clear hg3 hfo3 HRC hbG; go_wp2_with fail; go_roundw
      case rel => exact ⟨D.cat (.node c' k' .nil), r', us ++ [Value.iface vt vx], vr, ns ++ [Value.iface nt nx], j + 1, by omega, by go_num, HN, HRR, row_next HO3.out HF.out.2.2.2 hlt _, HF3, HG3, by simpa using hsz3⟩
      case measure => simp [intOf]; omega
     ·obtain rfl : j = q := by omega
      obtain rfl : R = .nil := by
       have h1 := FoIn.count _ _ HR.out; have h2 := HE.out; rw [HF.out.2.1, List.length_append] at h2; have h3 := HF.out.2.2.1
       cases R with
       | nil => rfl
       | node a b d => simp [Fo.count] at h1; omega
      have hD : D = k := by have := HF.out.1; rw [Fo.cat_nil] at this; exact this.symm
      subst hD
      have x0 : wr.cell? ⟨b, 0, none⟩ = some (.string str) := by
       rw [HES.out]; exact (hwr.cell (World.block_lt_of_cell? _ _ HC.out.2.2.1)).trans HC.out.2.2.1
      have hns := HF.out.2.2.2
      have HFIN : Hid (ReplV w vb L c D (.returned (.iface 139 (.pointer (some ⟨wr.heap.size, 0, none⟩)))) (wr.alloc (Obj.cells #[Value.string str, Value.slice (some ⟨w.heap.size, 0, none⟩) j j] 141))) := by
       have hal : Below wr.heap.size wr (wr.alloc (Obj.cells #[Value.string str, Value.slice (some ⟨w.heap.size, 0, none⟩) j j] 141)) := (Below.refl _ _).alloc (Nat.le_refl _) _; have hnew := heap_alloc_new wr (Obj.cells #[Value.string str, Value.slice (some ⟨w.heap.size, 0, none⟩) j j] 141); refine ⟨_, rfl, Below.on HG.out hal, _, [], rfl, .inr (.inr (.inr ⟨by rw [lkI_kind]; exact H0.out, wr.heap.size, w.heap.size, ns, rfl, by omega, Nat.le_refl _, by rw [lkI_text, ← HES.out]; exact cell_of_row _ _ 0 _ _ _ hnew, by rw [hns]; exact cell_of_row _ _ 1 _ _ _ hnew, by simp; omega, fun i hi => ?_, ?_⟩)), rfl⟩
       ·refine Lib.cell?_alloc_marked _ ?_
        rw [HO.out.cellAt i (by omega), List.getElem?_append_left (by omega)]
        simp [List.getD, hi]
       ·exact (HFO.out.below hal).mono (by omega)
      clear hns; go_wp2_with fail; go_ret; exact HFIN.out
end
section
open Go Go.RowKit
def TmIn (w : World) (q : Option Addr) (m c : Nat) (cs : List Cel) : Prop := m = cs.length ∧ CIn w q cs ∧ 0 < m ∧ m + tl cs ≤ 100000 ∧ m ≤ c ∧ c ≤ 9223372036854775807
theorem TmIn.below {w w' : World} {q : Option Addr} {m c : Nat} {cs : List Cel} (h : TmIn w q m c cs) (hb : Below w.heap.size w w') : TmIn w' q m c cs := ⟨h.1, h.2.1.below hb, h.2.2⟩
def TmO (w : World) (cs : List Cel) (e : Ending) (w' : World) : Prop := ∃ q m c, e = .returned (.slice q m c) ∧ TmIn w' q m c cs ∧ Below w.heap.size w w'
theorem one_lies {w : World} {g : Nat} {k n : Int} (hg : w.heap[g]? = some (.cells #[.int .i64 k, .int .i64 n, .slice none 0 0] 55)) : CIn w (some ⟨g, 0, none⟩) [(k, n, [])] := fun _ => ⟨g, 0, rfl, fun i hi => by
 obtain rfl : i = 0 := by simp at hi; omega
 exact ⟨none, 0, cell_of_row _ _ 0 _ _ _ hg, cell_of_row _ _ 1 _ _ _ hg, cell_of_row _ _ 2 _ _ _ hg, fun h => by simp at h⟩⟩
theorem variable_any (n : Int) (w : World) : Calls Tryz.prog 14 #[.int .i64 n] w (TmO w [(0, n, [])]) := by
 go_enter Tryz.func14, Tryz.ntmps14
 go_wp2_with fail; have hn := heap_alloc_new w (Obj.cells #[Value.int IntKind.i64 0, Value.int IntKind.i64 n, Value.slice none 0 0] 55)
 have HX : Hid (TmIn (w.alloc (Obj.cells #[Value.int IntKind.i64 0, Value.int IntKind.i64 n, Value.slice none 0 0] 55)) (some ⟨w.heap.size, 0, none⟩) 1 1 [(0, n, [])]) := ⟨rfl, one_lies hn, by decide, by simp [tl], by decide, by decide⟩
 clear hn; go_ret; exact ⟨_, _, _, rfl, HX.out, (Below.refl _ _).alloc (Nat.le_refl _) _⟩
theorem app_runL (w w' : World) {ops : Array Oper} {rest : List Oper} {o : Oper} {a : Act} {Q : Exit → Act → World → Prop} (hgd : o.guard = none) (s x : Operand) (t : TypeId)
  (ho : o.op = .call { callee := .builtin .append, args := #[s, x], argTypes := #[t, t] }) (vs vx v : Value) (hs : a.eval s = vs) (hx : a.eval x = vx) (hr : (Builtin.append_ #[t, t] o.type #[vs, vx]).run Tryz.prog w = .ok v w')
  (h : wpList Tryz.prog ops Q rest (a.put o.dst v) w') : wpList Tryz.prog ops Q (o :: rest) a w := by
 refine wpList_plain hgd fun K hK => ?_
 unfold Oper.wp
 simp [execOp, ho, resolve, invoke, builtin, hs, hx, hr, Result.andThen]
 exact hK _ _ h
theorem rowcap {w : World} {B s n c : Nat} {e : TypeId} {p : Option Addr} {vs : List Value} (h : w.ownsRow B e s (.slice p n c) n vs) : n ≤ c ∧ c ≤ 9223372036854775807 := by
 rcases h.2 with ⟨hv, h0⟩ | ⟨g, cap, cur, hv, _, _, h1, h2, _⟩
 ·simp at hv
  omega
 ·simp at hv
  unfold maxLen at h2
  omega
end
section
open Go Go.RowKit
theorem OwnI.other {w w' : World} {B : Nat} {t : TypeId} {p : Option Addr} {n c : Nat} {zs : List Int} (h : OwnI w B t p n c zs) (hb : ∀ k, k < w.heap.size → B ≤ k → w'.heap[k]? = w.heap[k]?) : OwnI w' B t p n c zs := by
 refine ⟨h.1, h.2.1, ?_⟩
 rcases h.2.2 with h' | ⟨g, cap, cur, hv, hB, hg, r⟩
 ·exact .inl h'
 ·exact .inr ⟨g, cap, cur, hv, hB, (hb g (Array.getElem?_eq_some_iff.1 hg).1 hB).trans hg, r⟩
def Near (v : Int) : Prop := -1000000000000001 ≤ v ∧ v ≤ 1000000000000001
instance (v : Int) : Decidable (Near v) := inferInstanceAs (Decidable (_ ∧ _))
end
section
open Go Go.RowKit
end
end Go.Proofs.YtdmmchoicngblaaGreatDoor
