/- Texts of Ren1, RenN, ClP, ClQ. Own work of the verifier. -/
import Derived.Test.YtickbkcpcgmlmaaGreatDoorUqag
import Derived.Test.YtickbkcpcgmlmaaGreatDoorUqaf
import Derived.Test.YtickbkcpcgmlmaaGreatDoorUqaj
namespace Go.Proofs.YtickbkcpcgmlmaaGreatDoor
set_option linter.unusedVariables false
set_option maxRecDepth 100000
section
open Go Go.RowKit Go.Maps
def Fo.map (f : Cel → Cel) : Fo → Fo
 | .nil => .nil
 | .node c k r => .node (f c) (k.map f) (r.map f)
theorem Fo.cells_map (f : Cel → Cel) : ∀ F : Fo, (F.map f).cells = F.cells.map f
 | .nil => rfl
 | .node c k r => by simp [Fo.map, Fo.cells, Fo.cells_map f k, Fo.cells_map f r]
theorem Fo.count_map (f : Cel → Cel) : ∀ F : Fo, (F.map f).count = F.count
 | .nil => rfl
 | .node c k r => by simp [Fo.map, Fo.count, Fo.count_map f r]
theorem Fo.map_cat (f : Cel → Cel) : ∀ a b : Fo, (a.cat b).map f = (a.map f).cat (b.map f)
 | .nil, b => rfl
 | .node c k r, b => by simp [Fo.cat, Fo.map, Fo.map_cat f r b]
def renI (L : List Int) (c : Cel) : Cel := if c.1 = 0 then (c.1, ((L.idxOf c.2.1 : Nat) : Int), c.2.2) else c
theorem renI_kind (L : List Int) (c : Cel) : (renI L c).1 = c.1 := by unfold renI; split <;> rfl
theorem renI_text (L : List Int) (c : Cel) : (renI L c).2.2 = c.2.2 := by unfold renI; split <;> rfl
theorem renI_ok {L : List Int} (hL : L.length ≤ 1000000) {c : Cel} (h : cellB c.1 c.2.1 c.2.2.length = true) : cellB (renI L c).1 (renI L c).2.1 (renI L c).2.2.length = true := by
 by_cases h0 : c.1 = 0
 ·have := List.idxOf_le_length (l := L) (a := c.2.1)
  have hl : c.2.2.length = 0 := by
   rw [h0] at h; simp only [cellB, decide_eq_true_eq] at h
   omega
  rw [renI, if_pos h0]; simp only [cellB, decide_eq_true_eq]; exact .inl ⟨h0, by omega, by omega, hl⟩
 ·rw [renI, if_neg h0]; exact h
theorem Fo.ok_ren {L : List Int} (hL : L.length ≤ 1000000) : ∀ F : Fo, F.ok → (F.map (renI L)).ok
 | .nil, _ => trivial
 | .node c k r, ⟨h1, h2, h3, h4, h5, h6⟩ => by
   refine ⟨renI_ok hL h1, by rw [renI_text]; exact h2, fun e => ?_, fun e => ?_, Fo.ok_ren hL k h5, Fo.ok_ren hL r h6⟩
   ·rw [renI_kind] at e
    rw [Fo.count_map, renI, if_neg (by rw [e]; decide)]; exact h3 e
   ·rw [renI_kind] at e
    rw [h4 e]; rfl
theorem idxOf_prefix {a b : List Int} (h : a <+: b) {x : Int} (hx : x ∈ a) : b.idxOf x = a.idxOf x := by
 obtain ⟨t, rfl⟩ := h; rw [List.idxOf_append, if_pos hx]
theorem putV_prefix (ks : List Int) (x : Int) : ks <+: putV ks x := by unfold putV; split; exact List.prefix_rfl; exact List.prefix_append _ _
theorem putV_mem (ks : List Int) (x : Int) : x ∈ putV ks x := by unfold putV; split; assumption; simp
theorem putV_idx (ks : List Int) (x : Int) : (putV ks x).idxOf x = ks.idxOf x := by
 unfold putV
 split
 ·rfl
 ·rename_i h
  rw [List.idxOf_append, if_neg h, List.idxOf_eq_length h]; simp
theorem visitL_prefix (ks : List Int) (c : Cel) : ks <+: visitL ks c := by unfold visitL; split; exact putV_prefix _ _; exact List.prefix_rfl
theorem visits_prefix : ∀ (cs : List Cel) (ks : List Int), ks <+: visits ks cs
 | [], ks => List.prefix_rfl
 | c :: r, ks => (visitL_prefix ks c).trans (visits_prefix r (visitL ks c))
structure RState (w : World) (nb mb : Nat) (ks : List Int) : Prop where
 ncell : w.cell? ⟨nb, 0, none⟩ = some (.map (some mb))
 map : NumMap w mb ks
theorem RState.ne {w : World} {nb mb : Nat} {ks : List Int} (h : RState w nb mb ks) : nb ≠ mb := fun e => by
 obtain ⟨D, ⟨es, clock, hb, _⟩, _⟩ := h.map; have := h.ncell; rw [e] at this
 simp [World.cell?, hb] at this
theorem RState.below {w w' : World} {nb mb : Nat} {ks : List Int} (h : RState w nb mb ks) (hb : Below w.heap.size w w') : RState w' nb mb ks :=
 ⟨(hb.cell (World.block_lt_of_cell? _ _ h.ncell)).trans h.ncell, h.map.of_block (hb.block _ h.map.lt)⟩
theorem FoIn.kept {w w' : World} {B mb : Nat} {F : Fo} {vs : List Value} (h : FoIn w B F vs) (hg : w.grownBy w' (some mb)) (hm : mb < B) : FoIn w' B F vs :=
 FoIn.imp (Nat.le_refl _) (fun b o hb hlt => World.cell?_of_block (w := w) (a := ⟨b, o, none⟩) (hg.block b hlt (fun e => by have := Option.some.inj e; omega))) hg.size F vs h
theorem grown_setR {w w' : World} {row : Option Nat} (h : w.grownBy w' row) {a : Addr} (ha : w.heap.size ≤ a.block) (u : Value) : w.grownBy (w'.setCell a u) row :=
 ⟨h.os, h.tape, h.output, by simpa using h.size, fun k hk hr => (Below.heap_setCell _ _ _ _ (by omega)).trans (h.block k hk hr)⟩
theorem grown_alloc {w w' : World} {row : Option Nat} (h : w.grownBy w' row) (o : Obj) : w.grownBy (w'.alloc o) row :=
 ⟨h.os, h.tape, h.output, by have := h.size; simp; omega, fun k hk hr => (Below.heap_alloc _ _ _ (by have := h.size; omega)).trans (h.block k hk hr)⟩
theorem grown_below {B : Nat} {w w' : World} {mb : Nat} (hg : w.grownBy w' (some mb)) (hB : B ≤ w.heap.size) (hm : B ≤ mb) : Below B w w' := (Below.refl _ _).grown hg hB (fun k e => by cases e; exact hm)
theorem with_any (x : Int) (nb mb : Nat) (ks : List Int) (w : World) (h0 : 0 ≤ x) (h1 : x ≤ 1000000) (hl : ks.length ≤ 100000) (hs : RState w nb mb ks) :
  Calls Tryz.prog 167 #[.int .i64 x, .pointer (some ⟨nb, 0, none⟩)] w fun e w' => e = .returned (.iface 94 (.int .i64 (ks.idxOf x))) ∧ RState w' nb mb (putV ks x) ∧ w.grownBy w' (some mb) := by
 have HOF := of_any mb ks x w h0 h1 (by omega) hs.map; have c1 := hs.ncell; have hne := hs.ne; have HNE : Hid (nb ≠ mb) := hne; have HC : Hid _ := c1; clear hs hne
 go_enter Tryz.func167, Tryz.ntmps167
 go_wp2_with fail; refine HOF.mono ?_; rintro e w1 ⟨rfl, hm, hg⟩; go_wp2_with fail; go_ret; exact ⟨rfl, ⟨(World.cell?_of_block (w := w) (a := ⟨nb, 0, none⟩) (hg.block nb (World.block_lt_of_cell? _ _ HC.out) (fun e => HNE.out (Option.some.inj e)))).trans HC.out, hm⟩, hg⟩
def ReplOut (w : World) (nb mb : Nat) (ks : List Int) (c : Cel) (k : Fo) (e : Ending) (w' : World) : Prop :=
 ∃ v, e = .returned v ∧ RState w' nb mb (visits ks (c :: k.cells)) ∧ w.grownBy w' (some mb) ∧ ∀ L, visits ks (c :: k.cells) <+: L → FoIn w' w.heap.size (.node (renI L c) (k.map (renI L)) .nil) [v]
set_option maxHeartbeats 1000000 in
theorem replace_any : ∀ (N : Nat) (c : Cel) (k : Fo) (v : Value) (Bt nb mb : Nat) (ks : List Int) (w0 w : World), k.cells.length ≤ N → (Fo.node c k .nil).ok → FoIn w0 Bt (.node c k .nil) [v] → Below w0.heap.size w0 w → w0.heap.size ≤ mb → RState w nb mb ks → ks.length + 1 + k.cells.length ≤ 100000 →
  Calls Tryz.prog 139 #[v, .func (.func 167) #[] #[.pointer (some ⟨nb, 0, none⟩)]] w (ReplOut w nb mb ks c k) := by
 intro N
 induction N using Nat.strongRecOn with
 | _ N ih =>
   intro c k v Bt nb mb ks w0 w hN hok hfo hw hmb hs hlen
   obtain ⟨v', vr, e, hnode, _⟩ := hfo; obtain ⟨rfl, rfl⟩ := List.cons.inj e
   rcases hnode with ⟨h0, rfl⟩ | ⟨h0, rfl⟩ | ⟨h0, rfl⟩ | ⟨h0, b, g, vs, rfl, hcomp⟩
   ·have hk : k = .nil := hok.2.2.2.1 (by rw [h0]; decide)
    subst hk
    have hx : 0 ≤ c.2.1 ∧ c.2.1 ≤ 1000000 := by have := hok.1; rw [h0] at this; simp [cellB] at this; omega
    have HW := with_any c.2.1 nb mb ks w hx.1 hx.2 (by omega) hs
    have HF : Hid (∀ w', RState w' nb mb (putV ks c.2.1) → w.grownBy w' (some mb) → ReplOut w nb mb ks c .nil (.returned (.iface 94 (.int .i64 (ks.idxOf c.2.1)))) w') := fun w' h1 h2 => by
     have e1 : visits ks (c :: Fo.nil.cells) = putV ks c.2.1 := by simp [visits, Fo.cells, visitL, h0]
     refine ⟨_, rfl, by rw [e1]; exact h1, h2, fun L hL => ⟨_, [], rfl, .inl ⟨by rw [renI_kind]; exact h0, ?_⟩, rfl⟩⟩; rw [e1] at hL; rw [renI, if_pos h0, idxOf_prefix hL (putV_mem _ _), putV_idx]
    obtain ⟨x, ex⟩ : ∃ x, x = c.2.1 := ⟨_, rfl⟩
    obtain ⟨ix, ei⟩ : ∃ ix, ix = ks.idxOf c.2.1 := ⟨_, rfl⟩
    rw [← ei] at HW HF; rw [← ex] at HW HF ⊢; have n1 := isVar; clear ih hok hw hs hx ex ei e hlen
    go_enter Tryz.func139, Tryz.ntmps139
    go_wp2_with fail; refine HW.mono ?_; rintro e w1 ⟨rfl, h1, h2⟩; go_wp2_with fail; go_ret; exact HF.out _ h1 h2
   ·have hk : k = .nil := hok.2.2.2.1 (by rw [h0]; decide)
    subst hk; have n1 := noVar_num; have n2 := noComp_num
    have hv : visits ks (c :: Fo.nil.cells) = ks := by simp [visits, Fo.cells, visitL, h0]
    have HF : Hid (ReplOut w nb mb ks c .nil (.returned (.iface 149 (.int .i64 c.2.1))) w) := ⟨_, rfl, by rw [hv]; exact hs, ⟨rfl, rfl, rfl, Nat.le_refl _, fun _ _ _ => rfl⟩, fun L _ => ⟨_, [], rfl, .inr (.inl ⟨by rw [renI_kind]; exact h0, by rw [renI, if_neg (by rw [h0]; decide)]⟩), rfl⟩⟩
    obtain ⟨x, ex⟩ : ∃ x, x = Value.int .i64 c.2.1 := ⟨_, rfl⟩
    rw [← ex] at HF ⊢; clear ih hok hw hs ex e hlen hv
    go_enter Tryz.func139, Tryz.ntmps139
    go_wp2_with fail; go_ret; exact HF.out
   ·have hk : k = .nil := hok.2.2.2.1 (by rw [h0]; decide)
    subst hk; have n1 := noVar_atom; have n2 := noComp_atom
    have hv : visits ks (c :: Fo.nil.cells) = ks := by simp [visits, Fo.cells, visitL, h0]
    have HF : Hid (ReplOut w nb mb ks c .nil (.returned (.iface 143 (.string (strOfNums c.2.2)))) w) := ⟨_, rfl, by rw [hv]; exact hs, ⟨rfl, rfl, rfl, Nat.le_refl _, fun _ _ _ => rfl⟩, fun L _ => ⟨_, [], rfl, .inr (.inr (.inl ⟨by rw [renI_kind]; exact h0, by rw [renI, if_neg (by rw [h0]; decide)]⟩)), rfl⟩⟩
    obtain ⟨x, ex⟩ : ∃ x, x = Value.string (strOfNums c.2.2) := ⟨_, rfl⟩
    rw [← ex] at HF ⊢; clear ih hok hw hs ex e hlen hv
    go_enter Tryz.func139, Tryz.ntmps139
    go_wp2_with fail; go_ret; exact HF.out
   ·have n1 := noVar_comp
    have n2 := isComp; have HC : Hid (CompAt w0 Bt c.2.2 k b g vs) := hcomp; have hvl2 : vs.length = k.count := FoIn.count _ _ hcomp.2.2.2.2.2.2
    obtain ⟨q, eq⟩ : ∃ q, q = vs.length := ⟨_, rfl⟩
    have HE : Hid (q = vs.length ∧ vs.length = k.count) := ⟨eq, hvl2⟩
    have hq : q ≤ 100000 := by have := Fo.count_le k; omega
    have HK : Hid k.ok := hok.2.2.2.2.1; have d0 := (hw.cell (World.block_lt_of_cell? _ _ hcomp.2.2.1)).trans hcomp.2.2.1; have d1 := (hw.cell (World.block_lt_of_cell? _ _ hcomp.2.2.2.1)).trans hcomp.2.2.2.1; rw [← eq] at d1; have HBB : Hid (b < w0.heap.size) := World.block_lt_of_cell? _ _ hcomp.2.2.1
    have hv0 : visitL ks c = ks := by rw [visitL, if_neg (by rw [h0]; decide)]
    have HV0 : Hid (∀ cs, visits ks (c :: cs) = visits ks cs) := fun cs => by rw [visits_cons, hv0]
    have HS : Hid (RState w nb mb ks) := hs; have HW : Hid (Below w0.heap.size w0 w) := hw; have HIH : Hid _ := ih; have hml := hs.map.lt; have hnl : nb < w.heap.size := World.block_lt_of_cell? _ _ hs.ncell
    have HREN : Hid (∀ L, renI L c = c) := fun L => by rw [renI, if_neg (by rw [h0]; decide)]
    have H0 : Hid (c.1 = 3) := h0
    obtain ⟨str, es⟩ : ∃ str, str = strOfNums c.2.2 := ⟨_, rfl⟩
    rw [← es] at d0; have HES : Hid (str = strOfNums c.2.2) := es; obtain ⟨i0, hi, hz0, hz1, hz2⟩ := info_parts infoTerm
    have hmx : q ≤ maxLen := by unfold maxLen; omega
    clear ih hok hw hs e hcomp eq hvl2 hv0 es h0
    go_enter Tryz.func139, Tryz.ntmps139
    go_wp2_with (at_make; refine wpList_make_full _ rfl _ _ 93 rfl w.heap.size 56 i0 .nilIface 1 Tryz.underlying93 hi hz0 hz1 _ _ _ _ q rfl rfl rfl rfl (by rw [hz2]; omega) hmx (Nat.le_refl _) ?_; intro w1 hown hgrow; have d0' := ((World.cell?_of_block (w := w) (a := ⟨b, 0, none⟩) (hgrow.block b (World.block_lt_of_cell? _ _ d0) (fun h => by cases h)))).trans d0; have d1' := ((World.cell?_of_block (w := w) (a := ⟨b, 1, none⟩) (hgrow.block b (World.block_lt_of_cell? _ _ d1) (fun h => by cases h)))).trans d1)
    have HO1 : Hid (w1.ownsRow w.heap.size 56 1 (.slice (some ⟨w.heap.size, 0, none⟩) q q) q ([] ++ List.replicate (q - 0) .nilIface)) := by
     have := hown
     simp [Value.cells, toList_madeCells_one] at this
     exact this
    have HG1 : Hid (w.grownBy w1 (some mb)) := ⟨hgrow.os, hgrow.tape, hgrow.output, hgrow.size, fun k hk _ => hgrow.block k hk (fun h => by cases h)⟩
    have HS1 : Hid (RState w1 nb mb ks) := HS.out.below ((Below.refl _ _).grown hgrow (Nat.le_refl _) (fun k h => by cases h))
    have hs1 : w.heap.size + 1 ≤ w1.heap.size := by have := (hown.lt w.heap.size rfl).2; omega
    clear hown hgrow hi hz0 hz1 hz2 d0 d1 d0' d1'
    go_loopw [31] (fun i wr => ∃ (D R : Fo) (us vs2 ns : List Value) (j : Nat), j ≤ q ∧ i = .int .i64 j ∧ Hid (k = D.cat R ∧ vs = us ++ vs2 ∧ us.length = j ∧ ns.length = j) ∧ Hid (FoIn w0 Bt R vs2) ∧ Hid (RState wr nb mb (visits ks D.cells)) ∧
     Hid (wr.ownsRow w.heap.size 56 1 (.slice (some ⟨w.heap.size, 0, none⟩) q q) q (ns ++ List.replicate (q - j) .nilIface)) ∧ Hid (∀ L, visits ks D.cells <+: L → FoIn wr (w.heap.size + 1) (D.map (renI L)) ns) ∧ Hid (w.grownBy wr (some mb)) ∧ w.heap.size + 1 ≤ wr.heap.size) (fun i _ => q - (intOf i).toNat)
    case atStart => exact ⟨.nil, k, [], vs, [], 0, Nat.zero_le _, rfl, ⟨rfl, rfl, rfl, rfl⟩, HC.out.2.2.2.2.2.2, HS1, HO1, fun L _ => rfl, HG1, hs1⟩
    case round =>
     obtain ⟨D, R, us, vs2, ns, j, hj, rfl, HF, HR, HST, HO, HFO, HG, hsz⟩ := hrel; have hwr : Below w0.heap.size w0 wr := HW.out.trans (grown_below HG.out HW.out.size hmb)
     by_cases hlt : j < q
     ·obtain ⟨c', k', r', rfl⟩ : ∃ c' k' r', R = .node c' k' r' := by
       cases R with
       | nil =>
         have h1 := HF.out; have h2 : vs2 = [] := HR.out; have h3 := HE.out.1; rw [h1.2.1, h2, List.append_nil] at h3
         omega
       | node c' k' r' => exact ⟨c', k', r', rfl⟩
      obtain ⟨v, vr, rfl, hnode, hrest⟩ := HR.out; have hok2 := (Fo.ok_cat D (.node c' k' r')).1 (HF.out.1 ▸ HK.out)
      have hl2 : D.cells.length + (k'.cells.length + r'.cells.length + 1) = k.cells.length := by
       rw [HF.out.1, Fo.cells_cat]; simp [Fo.cells]
      have hat : w0.cell? ⟨g, j, none⟩ = some v := by
       rw [HC.out.2.2.2.2.2.1 j (by rw [← HE.out.1]; exact hlt), HF.out.2.1]
       simp [List.getD, HF.out.2.2.1]
      have c5 : wr.cell? ⟨g, j, none⟩ = some v := (hwr.cell (World.block_lt_of_cell? _ _ hat)).trans hat; have HRC := HIH.out k'.cells.length (by omega) c' k' v Bt nb mb (visits ks D.cells) w0 wr (Nat.le_refl _) ⟨hok2.2.1, hok2.2.2.1, hok2.2.2.2.1, hok2.2.2.2.2.1, hok2.2.2.2.2.2.1, trivial⟩ ⟨v, [], rfl, hnode, rfl⟩ hwr hmb HST.out (by have := visits_len D.cells ks; omega); obtain ⟨vt, vx, rfl⟩ := hnode.iface; have HRR : Hid (FoIn w0 Bt r' vr) := hrest; clear hok2 hl2 hat hwr hnode hrest HIH; go_wp2_with fail; refine HRC.mono ?_; rintro e w3 ⟨v3, rfl, hst3, hg3, hfo3⟩; obtain ⟨nt, nx, rfl⟩ := (hfo3 _ List.prefix_rfl).iface; have hbG : w3.heap[w.heap.size]? = wr.heap[w.heap.size]? := hg3.block w.heap.size (by omega) (fun e => by have := Option.some.inj e; omega)
      have e0 : w3.cell? ⟨w.heap.size, j, none⟩ = some .nilIface := by
       rw [World.cell?_of_block (w := wr) (a := ⟨w.heap.size, j, none⟩) hbG, HO.out.cellAt j (by omega), List.getElem?_append_right (by have := HF.out.2.2.2; omega), List.getElem?_replicate, if_pos (by have := HF.out.2.2.2; omega)]
      have e1 : w3.frozen? ⟨w.heap.size, j, none⟩ = false := (World.frozen?_of_block (w := wr) (a := ⟨w.heap.size, j, none⟩) hbG).trans (HO.out.frozenAt j); have HO3 : Hid (w3.ownsRow w.heap.size 56 1 (.slice (some ⟨w.heap.size, 0, none⟩) q q) q (ns ++ List.replicate (q - j) .nilIface)) := HO.out.kept hg3 (.inr (fun e => by have := Option.some.inj e; simp at this; omega))
      have HN : Hid (k = (D.cat (.node c' k' .nil)).cat r' ∧ vs = (us ++ [Value.iface vt vx]) ++ vr ∧ (us ++ [Value.iface vt vx]).length = j + 1 ∧ (ns ++ [Value.iface nt nx]).length = j + 1) := ⟨by rw [Fo.cat_assoc]; exact HF.out.1, by rw [HF.out.2.1]; simp, by simp [HF.out.2.2.1], by simp [HF.out.2.2.2]⟩
      have hvis : visits ks (D.cat (.node c' k' .nil)).cells = visits (visits ks D.cells) (c' :: k'.cells) := by rw [Fo.cells_cat, visits_append]; simp [Fo.cells]
      have HV3 : Hid (RState (w3.setCell ⟨w.heap.size, j, none⟩ (.iface nt nx)) nb mb (visits ks (D.cat (.node c' k' .nil)).cells)) := by
       rw [hvis]; exact ⟨(World.cell?_setCell_other _ _ _ _ (fun e => by have := congrArg Addr.block e; simp at this; omega)).trans hst3.ncell, hst3.map.of_block (Below.heap_setCell _ _ _ _ (show mb ≠ w.heap.size by omega))⟩
      have HF3 : Hid (∀ L, visits ks (D.cat (.node c' k' .nil)).cells <+: L → FoIn (w3.setCell ⟨w.heap.size, j, none⟩ (.iface nt nx)) (w.heap.size + 1) ((D.cat (.node c' k' .nil)).map (renI L)) (ns ++ [Value.iface nt nx])) := fun L hL => by
       rw [hvis] at hL; rw [Fo.map_cat]; exact (FoIn.cat _ _ _ _ ((HFO.out L ((visits_prefix _ _).trans hL)).kept hg3 (by omega)) ((hfo3 L hL).mono hsz)).setCell (show w.heap.size < w.heap.size + 1 by omega) _
      have HG3 : Hid (w.grownBy (w3.setCell ⟨w.heap.size, j, none⟩ (.iface nt nx)) (some mb)) := grown_setR (HG.out.trans hg3) (Nat.le_refl _) _; have hsz3 : w.heap.size + 1 ≤ w3.heap.size := Nat.le_trans hsz hg3.size; clear hst3 hg3 hfo3 hvis HRC hbG; go_wp2_with fail; go_roundw
      case rel => exact ⟨D.cat (.node c' k' .nil), r', us ++ [Value.iface vt vx], vr, ns ++ [Value.iface nt nx], j + 1, by omega, by go_num, HN, HRR, HV3, row_next HO3.out HF.out.2.2.2 hlt _, HF3, HG3, by simpa using hsz3⟩
      case measure => simp [intOf]; omega
     ·obtain rfl : j = q := by omega
      obtain rfl : R = .nil := by
       have h1 := FoIn.count _ _ HR.out; have h2 := HE.out; rw [HF.out.2.1, List.length_append] at h2; have h3 := HF.out.2.2.1
       cases R with
       | nil => rfl
       | node a b d => simp [Fo.count] at h1; omega
      have hD : D = k := by have := HF.out.1; rw [Fo.cat_nil] at this; exact this.symm
      subst hD
      have x0 : wr.cell? ⟨b, 0, none⟩ = some (.string str) := by
       rw [HES.out]; exact (hwr.cell (World.block_lt_of_cell? _ _ HC.out.2.2.1)).trans HC.out.2.2.1
      have hns := HF.out.2.2.2; have HNS : Hid (ns.length = j) := hns
      have HFIN : Hid (ReplOut w nb mb ks c D (.returned (.iface 156 (.pointer (some ⟨wr.heap.size, 0, none⟩)))) (wr.alloc (Obj.cells #[Value.string str, Value.slice (some ⟨w.heap.size, 0, none⟩) j j] 158))) := by
       have hal : Below wr.heap.size wr (wr.alloc (Obj.cells #[Value.string str, Value.slice (some ⟨w.heap.size, 0, none⟩) j j] 158)) := (Below.refl _ _).alloc (Nat.le_refl _) _; refine ⟨_, rfl, by rw [HV0.out]; exact HST.out.below hal, grown_alloc HG.out _, fun L hL => ?_⟩; rw [HV0.out] at hL; have hnew := heap_alloc_new wr (Obj.cells #[Value.string str, Value.slice (some ⟨w.heap.size, 0, none⟩) j j] 158); refine ⟨_, [], rfl, .inr (.inr (.inr ⟨by rw [renI_kind]; exact H0.out, wr.heap.size, w.heap.size, ns, rfl, by omega, Nat.le_refl _, by rw [renI_text, ← HES.out]; exact cell_of_row _ _ 0 _ _ _ hnew, by rw [hns]; exact cell_of_row _ _ 1 _ _ _ hnew, by simp; omega, fun i hi => ?_, ?_⟩)), rfl⟩
       ·refine Lib.cell?_alloc_marked _ ?_
        rw [HO.out.cellAt i (by omega), List.getElem?_append_left (by omega)]
        simp [List.getD, hi]
       ·exact ((HFO.out L hL).below hal).mono (by omega)
      clear hns; go_wp2_with fail; go_ret; exact HFIN.out
theorem renumber_any (c : Cel) (k : Fo) (v : Value) (Bt : Nat) (w : World) (hok : (Fo.node c k .nil).ok) (hfo : FoIn w Bt (.node c k .nil) [v]) (hl : k.cells.length ≤ 10000) :
  Calls Tryz.prog 100 #[v] w fun e w' => ∃ v', e = .returned v' ∧ FoIn w' w.heap.size (.node (renI (visits [] (c :: k.cells)) c) (k.map (renI (visits [] (c :: k.cells)))) .nil) [v'] ∧ Below w.heap.size w w' := by
 have hmm := @run_makeMap Tryz.prog; obtain ⟨vt, vx, rfl⟩ := hfo.iface; have hW : Below w.heap.size w ((w.alloc (Obj.map #[] 0)).alloc (Obj.cells #[Value.map (some w.heap.size)] 112)) := ((Below.refl _ _).alloc (Nat.le_refl _) _).alloc (by simp) _; have hnew := heap_alloc_new (w.alloc (Obj.map #[] 0)) (Obj.cells #[Value.map (some w.heap.size)] 112)
 have e1 : (w.alloc (Obj.map #[] 0)).heap.size = w.heap.size + 1 := by simp
 rw [e1] at hnew
 have hS : RState ((w.alloc (Obj.map #[] 0)).alloc (Obj.cells #[Value.map (some w.heap.size)] 112)) (w.heap.size + 1) w.heap.size [] := ⟨cell_of_row _ _ 0 _ _ _ hnew, (NumMap.made w).of_block (Below.heap_alloc _ _ _ (by simp))⟩
 have HR := replace_any k.cells.length c k _ Bt (w.heap.size + 1) w.heap.size [] w _ (Nat.le_refl _) hok hfo hW (Nat.le_refl _) hS (by simp; omega); have HW : Hid _ := hW; clear hok hfo hS hW hnew e1
 go_enter Tryz.func100, Tryz.ntmps100
 go_wp2_with fail; refine HR.mono ?_; rintro e w1 ⟨v1, rfl, hst, hg, hf⟩; have hfo := hf _ List.prefix_rfl; obtain ⟨nt, nx, rfl⟩ := hfo.iface; have HF : Hid (FoIn w1 w.heap.size (.node (renI (visits [] (c :: k.cells)) c) (k.map (renI (visits [] (c :: k.cells)))) .nil) [.iface nt nx]) := hfo.mono (by simp; omega); have HB : Hid (Below w.heap.size w w1) := HW.out.trans (grown_below hg (by simp; omega) (Nat.le_refl _)); clear hf hst hg hfo HR; go_wp2_with fail; go_ret; exact ⟨_, rfl, HF.out, HB.out⟩
def renCells (cs : List Cel) : List Cel := cs.map (renI (visits [] cs))
end
section
open Go Go.RowKit
def comma : Cel := (3, 2, [44])
def splitC : Cel → Fo → List (Cel × Fo) × (Cel × Fo)
 | c, .node c1 k1 (.node c2 k2 .nil) => if c = comma then ((c1, k1) :: (splitC c2 k2).1, (splitC c2 k2).2) else ([], (c, .node c1 k1 (.node c2 k2 .nil)))
 | c, k => ([], (c, k))
theorem splitC_comma (c1 : Cel) (k1 : Fo) (c2 : Cel) (k2 : Fo) : splitC comma (.node c1 k1 (.node c2 k2 .nil)) = ((c1, k1) :: (splitC c2 k2).1, (splitC c2 k2).2) := by
 rw [splitC, if_pos rfl]
theorem splitC_other (c : Cel) (k : Fo) (h : c ≠ comma) : splitC c k = ([], (c, k)) := by
 unfold splitC
 split
 ·rw [if_neg h]
 ·rfl
def conjL (c : Cel) (k : Fo) : List Tr := (splitC c k).1 ++ [(splitC c k).2]
theorem conjL_comma (c1 : Cel) (k1 : Fo) (c2 : Cel) (k2 : Fo) : conjL comma (.node c1 k1 (.node c2 k2 .nil)) = (c1, k1) :: conjL c2 k2 := by
 unfold conjL; rw [splitC_comma]; rfl
theorem conjL_other (c : Cel) (k : Fo) (h : c ≠ comma) : conjL c k = [(c, k)] := by
 unfold conjL; rw [splitC_other c k h]; rfl
def kid0 (t : Tr) : Tr := (trs t.2).getD 0 (Cel.none, .nil)
def kid1 (t : Tr) : Tr := (trs t.2).getD 1 (Cel.none, .nil)
def lvlN : List Int := [36, 108, 101, 118, 101, 108]
def mrkN : List Int := [36, 109, 97, 114, 107]
def cutN : List Int := [36, 99, 117, 116]
def spcC (c : Cel) : Bool := decide (c.1 = 3 ∧ c.2.1 = 1 ∧ (c.2.2 = lvlN ∨ c.2.2 = mrkN ∨ c.2.2 = cutN))
def calC (c : Cel) : Bool := decide (c.1 = 2 ∨ c.1 = 3)
def conG (c : Cel) : Bool := conB (strOfNums c.2.2) c.2.1
def buC (c : Cel) : Bool := isBu (unU c.2.2) c.2.1
def goodG (t : Tr) : Bool := calC t.1 && (!conG t.1 && (!spcC t.1 || decide ((kid0 t).1.1 = 0)))
def inlG (t : Tr) : Bool := spcC t.1 || buC t.1
def ruleC : Cel := (3, 2, [58, 45])
def trueC : Cel := (2, 0, [116, 114, 117, 101])
def goalsT (t : Tr) : List Tr := if t.1 = trueC then [] else conjL t.1 t.2
def flatB (t : Tr) : Bool := decide (t.1 = ruleC) && (decide (renCells (t.1 :: t.2.cells) = t.1 :: t.2.cells) && (calC (kid0 t).1 && (goalsT (kid1 t)).all goodG))
def vsC (cs : List Cel) : List Int := (cs.filter fun c => decide (c.1 = 0)).map fun c => c.2.1
theorem vsC_append (a b : List Cel) : vsC (a ++ b) = vsC a ++ vsC b := by simp [vsC]
theorem vsC_cons (c : Cel) (r : List Cel) : vsC (c :: r) = if c.1 = 0 then c.2.1 :: vsC r else vsC r := by
 unfold vsC
 by_cases h : c.1 = 0
 ·simp [h]
 ·simp [h]
def meetP (q : Int) (st : List Int × List Int) (v : Int) : List Int × List Int :=
 if v = st.1.length then (st.1 ++ [0], st.2 ++ [q]) else if st.2.getD v.toNat 0 ≠ q then (st.1.set v.toNat 2, st.2) else (st.1.set v.toNat 1, st.2)
def meetsP (q : Int) (st : List Int × List Int) (vs : List Int) : List Int × List Int := vs.foldl (meetP q) st
def goalsP : Int → List Int × List Int → List Tr → List Int × List Int
 | _, st, [] => st
 | q, st, g :: r => goalsP (if inlG g then q else q + 1) (meetsP q st (vsC (g.1 :: g.2.cells))) r
def classP (t : Tr) : List Int := (goalsP 0 (meetsP 0 ([], []) (vsC ((kid0 t).1 :: (kid0 t).2.cells))) (goalsT (kid1 t))).1
def meetM (q : Int) (st : List Int × List Int × List Int) (v : Int) : List Int × List Int × List Int :=
 (st.1.set v.toNat (st.1.getD v.toNat 0 + 1), st.2.1.set v.toNat q, if 0 < st.1.getD v.toNat 0 ∧ st.2.1.getD v.toNat 0 ≠ q then st.2.2.set v.toNat 2 else st.2.2)
def meetsM (q : Int) (st : List Int × List Int × List Int) (vs : List Int) : List Int × List Int × List Int := vs.foldl (meetM q) st
def goalsM : Int → List Int × List Int × List Int → List Tr → List Int × List Int × List Int
 | _, st, [] => st
 | q, st, g :: r => goalsM (if inlG g then q else q + 1) (meetsM q st (vsC (g.1 :: g.2.cells))) r
def endM (st : List Int × List Int × List Int) : List Int := (List.range st.2.2.length).map fun v => if st.2.2.getD v 0 ≠ 2 ∧ 1 < st.1.getD v 0 then 1 else st.2.2.getD v 0
def classM (n : Nat) (t : Tr) : List Int := endM (goalsM 0 (meetsM 0 (List.replicate n 0, List.replicate n 0, List.replicate n 0) (vsC ((kid0 t).1 :: (kid0 t).2.cells))) (goalsT (kid1 t)))
structure Side (n : Nat) (q : Int) (P : List Int × List Int) (M : List Int × List Int × List Int) : Prop where
 pl : P.2.length = P.1.length
 pn : P.1.length ≤ n
 m1 : M.1.length = n
 m2 : M.2.1.length = n
 m3 : M.2.2.length = n
 old : ∀ v, v < P.1.length → 1 ≤ M.1.getD v 0 ∧ P.2.getD v 0 ≤ M.2.1.getD v 0 ∧ M.2.1.getD v 0 ≤ q ∧ M.2.2.getD v 0 = (if P.2.getD v 0 ≠ M.2.1.getD v 0 then 2 else 0) ∧ P.1.getD v 0 = (if P.2.getD v 0 ≠ M.2.1.getD v 0 then 2 else if 1 < M.1.getD v 0 then 1 else 0)
 new : ∀ v, P.1.length ≤ v → v < n → M.1.getD v 0 = 0 ∧ M.2.2.getD v 0 = 0
theorem getD_set (l : List Int) (i j : Nat) (x : Int) (h : i < l.length) : (l.set i x).getD j 0 = if j = i then x else l.getD j 0 := by
 simp only [List.getD, List.getElem?_set]
 by_cases e : j = i
 ·subst e; simp [h]
 ·rw [if_neg (fun h => e h.symm), if_neg e]
theorem getD_snoc (l : List Int) (j : Nat) (x : Int) : (l ++ [x]).getD j 0 = if j = l.length then x else l.getD j 0 := by
 simp only [List.getD]
 by_cases e : j = l.length
 ·subst e; simp
 ·rw [if_neg e]
  by_cases h : j < l.length
  ·rw [List.getElem?_append_left h]
  ·rw [List.getElem?_eq_none (by simp; omega), List.getElem?_eq_none (by omega)]
theorem Side.up {n : Nat} {q q' : Int} {P : List Int × List Int} {M : List Int × List Int × List Int} (h : Side n q P M) (hq : q ≤ q') : Side n q' P M :=
 ⟨h.pl, h.pn, h.m1, h.m2, h.m3, fun v hv => ⟨(h.old v hv).1, (h.old v hv).2.1, by have := (h.old v hv).2.2.1; omega, (h.old v hv).2.2.2⟩, h.new⟩
theorem side_meet {n : Nat} {q : Int} {P : List Int × List Int} {M : List Int × List Int × List Int} (h : Side n q P M) {v : Int} (h0 : 0 ≤ v) (h1 : v ≤ P.1.length) (h2 : v < n) : Side n q (meetP q P v) (meetM q M v) := by
 obtain ⟨u, rfl⟩ : ∃ u : Nat, v = (u : Int) := ⟨v.toNat, by omega⟩
 have hu1 : u ≤ P.1.length := by omega
 have hu2 : u < n := by omega
 obtain ⟨P1, P2⟩ := P; obtain ⟨M1, M2, M3⟩ := M; obtain ⟨pl, pn, m1, m2, m3, ho, hn⟩ := h; simp only at pl pn m1 m2 m3 ho hn hu1
 unfold meetP meetM
 simp only [Int.toNat_natCast]
 by_cases e : u = P1.length
 ·rw [if_pos (by omega)]
  have hnw := hn u (by omega) hu2; have hm : (if 0 < M1.getD u 0 ∧ M2.getD u 0 ≠ q then M3.set u 2 else M3) = M3 := if_neg (by omega); rw [hm]; refine ⟨by simp [pl], by simp; omega, by simpa using m1, by simpa using m2, m3, fun w hw => ?_, fun w hw1 hw2 => ?_⟩
  ·dsimp only at hw ⊢
   simp only [List.length_append, List.length_cons, List.length_nil] at hw
   have a1 : (M1.set u (M1.getD u 0 + 1)).getD w 0 = if w = u then M1.getD u 0 + 1 else M1.getD w 0 := getD_set _ _ _ _ (by omega)
   have a2 : (M2.set u q).getD w 0 = if w = u then q else M2.getD w 0 := getD_set _ _ _ _ (by omega)
   have a3 : (P2 ++ [q]).getD w 0 = if w = u then q else P2.getD w 0 := by rw [getD_snoc, pl, e]
   have a4 : (P1 ++ [0]).getD w 0 = if w = u then 0 else P1.getD w 0 := by rw [getD_snoc, e]
   rw [a1, a2, a3, a4]
   by_cases ew : w = u
   ·simp only [if_pos ew]
    rw [ew, hnw.1, hnw.2]; exact ⟨by omega, Int.le_refl _, Int.le_refl _, by simp, by simp⟩
   ·simp only [if_neg ew]
    exact ho w (by omega)
  ·dsimp only at hw1 ⊢
   simp only [List.length_append, List.length_cons, List.length_nil] at hw1
   have a1 : (M1.set u (M1.getD u 0 + 1)).getD w 0 = if w = u then M1.getD u 0 + 1 else M1.getD w 0 := getD_set _ _ _ _ (by omega)
   rw [a1, if_neg (by omega)]; exact hn w (by omega) hw2
 ·rw [if_neg (by omega)]
  have hou := ho u (by omega)
  have b1 : ∀ w, (M1.set u (M1.getD u 0 + 1)).getD w 0 = if w = u then M1.getD u 0 + 1 else M1.getD w 0 := fun w => getD_set _ _ _ _ (by omega)
  have b2 : ∀ w, (M2.set u q).getD w 0 = if w = u then q else M2.getD w 0 := fun w => getD_set _ _ _ _ (by omega)
  have b3 : ∀ w, (if 0 < M1.getD u 0 ∧ M2.getD u 0 ≠ q then M3.set u 2 else M3).getD w 0 = if w = u ∧ M2.getD u 0 ≠ q then 2 else M3.getD w 0 := fun w => by
   by_cases h9 : M2.getD u 0 ≠ q
   ·rw [if_pos ⟨by omega, h9⟩, getD_set _ _ _ _ (by omega)]
    by_cases ew : w = u
    ·rw [if_pos ew, if_pos ⟨ew, h9⟩]
    ·rw [if_neg ew, if_neg (fun h => ew h.1)]
   ·rw [if_neg (fun h => h9 h.2), if_neg (fun h => h9 h.2)]
  have b4 : (if 0 < M1.getD u 0 ∧ M2.getD u 0 ≠ q then M3.set u 2 else M3).length = n := by split <;> simpa using m3
  by_cases ef : P2.getD u 0 ≠ q
  ·rw [if_pos ef]
   have b5 : ∀ w, (P1.set u 2).getD w 0 = if w = u then 2 else P1.getD w 0 := fun w => getD_set _ _ _ _ (by omega)
   refine ⟨by simpa using pl, by simpa using pn, by simpa using m1, by simpa using m2, b4, fun w hw => ?_, fun w hw1 hw2 => ?_⟩
   ·dsimp only at hw ⊢
    simp only [List.length_set] at hw; rw [b1, b2, b3, b5]
    by_cases ew : w = u
    ·simp only [if_pos ew]
     rw [ew]; refine ⟨by omega, by omega, by omega, ?_, by rw [if_pos ef]⟩; rw [if_pos ef]
     by_cases eg : M2.getD u 0 = q
     ·rw [if_neg (fun h => h.2 eg), hou.2.2.2.1, if_pos (by omega)]
     ·rw [if_pos ⟨rfl, eg⟩]
    ·simp only [if_neg ew]
     rw [if_neg (fun h => ew h.1)]; exact ho w hw
   ·dsimp only at hw1 ⊢
    simp only [List.length_set] at hw1
    have ew : ¬ w = u := by omega
    rw [b1, b3, if_neg ew, if_neg (fun h => ew h.1)]; exact hn w hw1 hw2
  ·rw [if_neg ef]
   have eq1 : P2.getD u 0 = q := Classical.not_not.1 ef
   have eq2 : M2.getD u 0 = q := by omega
   have b5 : ∀ w, (P1.set u 1).getD w 0 = if w = u then 1 else P1.getD w 0 := fun w => getD_set _ _ _ _ (by omega)
   refine ⟨by simpa using pl, by simpa using pn, by simpa using m1, by simpa using m2, b4, fun w hw => ?_, fun w hw1 hw2 => ?_⟩
   ·dsimp only at hw ⊢
    simp only [List.length_set] at hw; rw [b1, b2, b3, b5]
    by_cases ew : w = u
    ·simp only [if_pos ew]
     rw [ew]; refine ⟨by omega, by omega, by omega, ?_, ?_⟩
     ·rw [if_neg (fun h => h.2 eq2), if_neg ef, hou.2.2.2.1, if_neg (by omega)]
     ·rw [if_neg ef, if_pos (by omega)]
    ·simp only [if_neg ew]
     rw [if_neg (fun h => ew h.1)]; exact ho w hw
   ·dsimp only at hw1 ⊢
    simp only [List.length_set] at hw1
    have ew : ¬ w = u := by omega
    rw [b1, b3, if_neg ew, if_neg (fun h => ew h.1)]; exact hn w hw1 hw2
def okV : Nat → List Int → Prop
 | _, [] => True
 | m, v :: r => (0 ≤ v ∧ v ≤ m) ∧ okV (if v = m then m + 1 else m) r
def endV : Nat → List Int → Nat
 | m, [] => m
 | m, v :: r => endV (if v = m then m + 1 else m) r
theorem endV_le : ∀ (vs : List Int) (m : Nat), m ≤ endV m vs
 | [], m => Nat.le_refl _
 | v :: r, m => by have := endV_le r (if v = m then m + 1 else m); unfold endV; split at this <;> split <;> first | omega | contradiction
theorem endV_append : ∀ (a b : List Int) (m : Nat), endV m (a ++ b) = endV (endV m a) b
 | [], b, m => rfl
 | v :: r, b, m => endV_append r b _
theorem okV_append : ∀ (a b : List Int) (m : Nat), okV m (a ++ b) ↔ okV m a ∧ okV (endV m a) b
 | [], b, m => by simp [okV, endV]
 | v :: r, b, m => by
   show (_ ∧ okV _ (r ++ b)) ↔ (_ ∧ okV _ r) ∧ okV (endV _ r) b
   rw [okV_append r b]; exact and_assoc.symm
theorem ren_seq (L : List Int) : ∀ (b : List Cel) (P : List Int), visits P b = L → (∀ c ∈ b, renI L c = c) → okV P.length (vsC b) ∧ endV P.length (vsC b) = L.length
 | [], P, h, _ => ⟨trivial, by rw [← h]; rfl⟩
 | c :: r, P, h, hr => by
   rw [visits_cons] at h
   have hrr : ∀ c ∈ r, renI L c = c := fun d hd => hr d (List.mem_cons_of_mem _ hd)
   rw [vsC_cons]
   by_cases h0 : c.1 = 0
   ·rw [if_pos h0]
    have hc := hr c (List.mem_cons_self ..); rw [renI, if_pos h0] at hc
    have hv : ((L.idxOf c.2.1 : Nat) : Int) = c.2.1 := by
     have := congrArg (fun x : Cel => x.2.1) hc; exact this
    have hvl : visitL P c = putV P c.2.1 := by unfold visitL; rw [if_pos h0]
    rw [hvl] at h; have ih := ren_seq L r (putV P c.2.1) h hrr
    have hpre : putV P c.2.1 <+: L := by rw [← h]; exact visits_prefix r _
    have hidx : L.idxOf c.2.1 = P.idxOf c.2.1 := by rw [idxOf_prefix hpre (putV_mem P c.2.1), putV_idx]
    rw [hidx] at hv
    by_cases hm : c.2.1 ∈ P
    ·have hlt := List.idxOf_lt_length_of_mem hm
     have e : putV P c.2.1 = P := by unfold putV; rw [if_pos hm]
     rw [e] at ih
     have hne : ¬ c.2.1 = (P.length : Int) := by omega
     refine ⟨⟨⟨by omega, by omega⟩, by rw [if_neg hne]; exact ih.1⟩, ?_⟩
     show endV (if c.2.1 = (P.length : Int) then P.length + 1 else P.length) (vsC r) = _
     rw [if_neg hne]; exact ih.2
    ·have hl := List.idxOf_eq_length hm
     have e : putV P c.2.1 = P ++ [c.2.1] := by unfold putV; rw [if_neg hm]
     rw [e] at ih
     have he : c.2.1 = (P.length : Int) := by omega
     rw [List.length_append] at ih; refine ⟨⟨⟨by omega, by omega⟩, by rw [if_pos he]; exact ih.1⟩, ?_⟩
     show endV (if c.2.1 = (P.length : Int) then P.length + 1 else P.length) (vsC r) = _
     rw [if_pos he]; exact ih.2
   ·rw [if_neg h0]
    have hvl : visitL P c = P := by unfold visitL; rw [if_neg h0]
    rw [hvl] at h; exact ren_seq L r P h hrr
theorem own_seq {cs : List Cel} (h : renCells cs = cs) : okV 0 (vsC cs) ∧ endV 0 (vsC cs) = (visits [] cs).length := by
 refine ren_seq (visits [] cs) cs [] rfl fun c hc => ?_
 obtain ⟨i, hi, rfl⟩ := List.getElem_of_mem hc; have := congrArg (fun l : List Cel => l[i]?) h; simp only [renCells, List.getElem?_map, List.getElem?_eq_getElem hi, Option.map_some, Option.some.injEq] at this; exact this
theorem meetP_len (q : Int) (P : List Int × List Int) (v : Int) : (meetP q P v).1.length = if v = P.1.length then P.1.length + 1 else P.1.length := by
 unfold meetP
 split
 ·simp
 ·split <;> simp
theorem side_meets {n : Nat} {q : Int} : ∀ (vs : List Int) {P : List Int × List Int} {M : List Int × List Int × List Int}, Side n q P M → okV P.1.length vs → endV P.1.length vs ≤ n → Side n q (meetsP q P vs) (meetsM q M vs) ∧ (meetsP q P vs).1.length = endV P.1.length vs
 | [], P, M, h, _, _ => ⟨h, rfl⟩
 | v :: r, P, M, h, ho, he => by
   have hl := meetP_len q P v
   have he' : endV (meetP q P v).1.length r ≤ n := by rw [hl]; exact he
   have h1 : v < n := by
    have h9 := endV_le r (meetP q P v).1.length; have h8 := ho.1
    by_cases e : v = P.1.length
    ·rw [if_pos e] at hl; omega
    ·have := h.pn; omega
   have hs := side_meet h ho.1.1 ho.1.2 h1; have ih := side_meets r hs (by rw [hl]; exact ho.2) he'; refine ⟨ih.1, ?_⟩; have e2 := ih.2; rw [hl] at e2; exact e2
def vsG : List Tr → List Int
 | [] => []
 | g :: r => vsC (g.1 :: g.2.cells) ++ vsG r
theorem side_goals {n : Nat} : ∀ (gs : List Tr) {q : Int} {P : List Int × List Int} {M : List Int × List Int × List Int}, Side n q P M → okV P.1.length (vsG gs) → endV P.1.length (vsG gs) ≤ n → ∃ q', Side n q' (goalsP q P gs) (goalsM q M gs) ∧ (goalsP q P gs).1.length = endV P.1.length (vsG gs)
 | [], q, P, M, h, _, _ => ⟨q, h, rfl⟩
 | g :: r, q, P, M, h, ho, he => by
   rw [vsG, okV_append] at ho; rw [vsG, endV_append] at he; have h1 := side_meets (vsC (g.1 :: g.2.cells)) h ho.1 (by have := endV_le (vsG r) (endV P.1.length (vsC (g.1 :: g.2.cells))); omega); have h2 : Side n (if inlG g then q else q + 1) (meetsP q P (vsC (g.1 :: g.2.cells))) (meetsM q M (vsC (g.1 :: g.2.cells))) := h1.1.up (by split <;> omega); obtain ⟨q', h3, h4⟩ := side_goals r h2 (by rw [h1.2]; exact ho.2) (by rw [h1.2]; exact he); refine ⟨q', h3, ?_⟩; have e : (goalsP q P (g :: r)) = goalsP (if inlG g then q else q + 1) (meetsP q P (vsC (g.1 :: g.2.cells))) r := rfl; rw [e, h4, h1.2, vsG, endV_append]
theorem side_end {n : Nat} {q : Int} {P : List Int × List Int} {M : List Int × List Int × List Int} (h : Side n q P M) (hl : P.1.length = n) : endM M = P.1 := by
 apply List.ext_getElem
 ·simp [endM, h.m3, hl]
 ·intro i h1 h2
  have ho := h.old i h2
  have hp : P.1[i] = P.1.getD i 0 := by simp [List.getD, h2]
  simp only [endM, List.getElem_map, List.getElem_range]; rw [hp, ho.2.2.2.2, ho.2.2.2.1]
  by_cases e : P.2.getD i 0 ≠ M.2.1.getD i 0
  ·rw [if_pos e, if_pos e]; simp
  ·rw [if_neg e, if_neg e]
   by_cases e2 : 1 < M.1.getD i 0
   ·rw [if_pos ⟨by decide, e2⟩, if_pos e2]
   ·rw [if_neg (fun h => e2 h.2), if_neg e2]
theorem side_start (n : Nat) : Side n 0 ([], []) (List.replicate n 0, List.replicate n 0, List.replicate n 0) := by
 refine ⟨rfl, Nat.zero_le _, by simp, by simp, by simp, fun v h => by simp at h, fun v _ h => ?_⟩
 have e : (List.replicate n (0 : Int)).getD v 0 = 0 := by simp [List.getD, h]
 exact ⟨e, e⟩
theorem vsG_conj : ∀ (N : Nat) (c : Cel) (k : Fo), k.cells.length ≤ N → vsG (conjL c k) = vsC (c :: k.cells)
 | N, c, k, hN => by
   by_cases hc : c = comma
   ·match k with
    | .node c1 k1 (.node c2 k2 .nil) =>
      subst hc
      cases N with
      | zero => simp [Fo.cells] at hN
      | succ N =>
        have ih := vsG_conj N c2 k2 (by simp [Fo.cells] at hN; omega); rw [conjL_comma, vsG, ih]
        have e : (Fo.node c1 k1 (.node c2 k2 .nil)).cells = (c1 :: k1.cells) ++ (c2 :: k2.cells) := by simp [Fo.cells]
        rw [e, vsC_cons comma, if_neg (by decide), vsC_append]
    | .nil => unfold conjL; unfold splitC; simp [vsG]
    | .node c1 k1 .nil => unfold conjL; unfold splitC; simp [vsG]
    | .node c1 k1 (.node c2 k2 (.node c3 k3 r)) => unfold conjL; unfold splitC; simp [vsG]
   ·rw [conjL_other c k hc]; simp [vsG]
theorem two_kidsC {t : Tr} (h : t.2.count = 2) : t.2.cells = ((kid0 t).1 :: (kid0 t).2.cells) ++ ((kid1 t).1 :: (kid1 t).2.cells) := by
 obtain ⟨c1, k1, c2, k2, e⟩ := two_of h
 unfold kid0 kid1
 rw [e]
 simp [trs, Fo.cells]
theorem class_same {t : Tr} (h2 : t.2.count = 2) (hr : t.1 = ruleC) (hn : renCells (t.1 :: t.2.cells) = t.1 :: t.2.cells) (hb : (kid1 t).1 = trueC → (kid1 t).2.cells = []) : classM (visits [] (t.1 :: t.2.cells)).length t = classP t := by
 obtain ⟨h3, h4⟩ := own_seq hn
 have e1 : vsC (t.1 :: t.2.cells) = vsC ((kid0 t).1 :: (kid0 t).2.cells) ++ vsG (goalsT (kid1 t)) := by
  rw [two_kidsC h2, hr, vsC_cons, if_neg (by decide), vsC_append]
  congr 1
  unfold goalsT
  by_cases ht : (kid1 t).1 = trueC
  ·rw [if_pos ht, hb ht, ht]; rfl
  ·rw [if_neg ht, vsG_conj _ _ _ (Nat.le_refl _)]
 rw [e1] at h3 h4; rw [okV_append] at h3; rw [endV_append] at h4
 generalize (visits [] (t.1 :: t.2.cells)).length = n at h4
 have s1 := side_meets (vsC ((kid0 t).1 :: (kid0 t).2.cells)) (side_start n) h3.1 (by have := endV_le (vsG (goalsT (kid1 t))) (endV 0 (vsC ((kid0 t).1 :: (kid0 t).2.cells))); show endV 0 _ ≤ n; omega); obtain ⟨q', s2, s3⟩ := side_goals (goalsT (kid1 t)) s1.1 (by rw [s1.2]; exact h3.2) (by rw [s1.2]; show endV (endV 0 _) _ ≤ n; omega); exact side_end s2 (by rw [s3, s1.2]; exact h4)
end
end Go.Proofs.YtickbkcpcgmlmaaGreatDoor
