/- Texts of UnV2, UnV3, UnV4. Own work of the verifier. -/
import Derived.Test.YtedlcmkhbccjgaaUqbf
import Derived.Test.YtedlcmkhbccjgaaUqag
import Derived.Deep.RegionWith
namespace Go.Proofs.Ytedlcmkhbccjgaa
open Go Go.RowKit
set_option linter.unusedVariables false

theorem FullF.cat {M : BM} {a a' b b' : Fo} (h : FullF M a a') (h' : FullF M b b') : FullF M (a.cat b) (a'.cat b') := by
  induction h with
  | nil => exact h'
  | keep h hk hr _ ih => exact .keep h hk ih
  | put h0 hm hu hr _ ih => exact .put h0 hm hu ih
theorem SV.cell {W0 : World} {P : BM} {EP : List (Int × Value)} {b s ub : Nat} {A : Nat → Prop} {ES : List (Int × Value)} {W W' : World} (h : SV W0 P EP b s ub A ES W) (hg : W.grownBy W' (some s)) {p : Addr} {v : Value} (hp : W.cell? p = some v) : W'.cell? p = some v := cells_kept h.sol hg hp
theorem fldT (w : World) (t : TypeId) (y : Value) (z : Int) : (Instr.field 128 (.agg #[.iface t y, .int .i64 z]) 0).run Try.prog w = .ok (.iface t y) w := by kernel_rfl
theorem fldN (w : World) (t : TypeId) (y : Value) (z : Int) : (Instr.field 128 (.agg #[.iface t y, .int .i64 z]) 1).run Try.prog w = .ok (.int .i64 z) w := by kernel_rfl
section
variable (W0 : World) (Bt : Nat) (P : BM) (EP : List (Int × Value)) (b s ub : Nat) (r : Int → Nat) (m : Nat)
set_option maxRecDepth 100000 in
theorem sol1_any (hI : SolveOk W0 P EP b s ub r m) (ux : Nat) (x : Int) (A : Nat → Prop) (ES : List (Int × Value)) (w : World) (hr : r x < m) (hx : 0 ≤ x ∧ x ≤ 1000000) (h : SV W0 P EP b s ub A ES w) (hux : w.cell? ⟨ux, 0, none⟩ = some (.pointer (some ⟨ub, 0, none⟩))) :
    Calls Try.prog 93 #[.int .i64 x, .pointer (some ⟨ux, 0, none⟩)] w fun e w' => ∃ g t y, e = .returned (.iface t y) ∧ FullF P (.node (0, x, []) .nil .nil) (Tr.fo g) ∧ FoA A w' (Tr.fo g) [.iface t y] ∧ After W0 P EP b s ub A w w' := by
  have HS := hI x A ES w hr hx h
  clear h hr hx hI
  go_enter Try.func93, Try.ntmps93
  go_wp2_with fail
  refine HS.mono ?_
  rintro e w1 ⟨g, t, y, rfl, h1, h2, h3⟩
  have HF : Hid (FullF P (.node (0, x, []) .nil .nil) g.fo ∧ FoA A w1 g.fo [.iface t y] ∧ After W0 P EP b s ub A w w1) := ⟨h1, h2, h3⟩
  clear h1 h2 h3 HS
  have f1 := fldT
  unfold solV
  go_wp2_with fail
  go_ret
  exact ⟨g, t, y, rfl, HF.out⟩
set_option maxRecDepth 100000 in
theorem sol2_any (hI : SolveOk W0 P EP b s ub r m) (ux : Nat) (x : Int) (A : Nat → Prop) (ES : List (Int × Value)) (w : World) (hr : r x < m) (hx : 0 ≤ x ∧ x ≤ 1000000) (h : SV W0 P EP b s ub A ES w) (hux : w.cell? ⟨ux, 0, none⟩ = some (.pointer (some ⟨ub, 0, none⟩))) :
    Calls Try.prog 94 #[.int .i64 x, .pointer (some ⟨ux, 0, none⟩)] w fun e w' => ∃ g, e = .returned (.int .i64 ((min (tcs g).length 2001 : Nat) : Int)) ∧ FullF P (.node (0, x, []) .nil .nil) (Tr.fo g) ∧ After W0 P EP b s ub A w w' := by
  have HS := hI x A ES w hr hx h
  clear h hr hx hI
  go_enter Try.func94, Try.ntmps94
  go_wp2_with fail
  refine HS.mono ?_
  rintro e w1 ⟨g, t, y, rfl, h1, h2, h3⟩
  have HF : Hid (FullF P (.node (0, x, []) .nil .nil) g.fo ∧ After W0 P EP b s ub A w w1) := ⟨h1, h3⟩
  unfold solV
  clear h1 h2 h3 HS
  have f1 := fldN
  go_wp2_with fail
  go_ret
  exact ⟨g, rfl, HF.out⟩
/-- What replaceVars leaves. -/
def RepOut (A : Nat → Prop) (c : Cel) (k : Fo) (w : World) (e : Ending) (w' : World) : Prop := ∃ (g : Tr) (t : TypeId) (y : Value), e = .returned (.iface t y) ∧ FullF P (.node c k .nil) g.fo ∧ FoA A w' g.fo [.iface t y] ∧ After W0 P EP b s ub A w w'
set_option maxRecDepth 100000 in
set_option maxHeartbeats 2000000 in
theorem replaceF_any (hI : SolveOk W0 P EP b s ub r m) (ux : Nat) : ∀ (N : Nat) (c : Cel) (k : Fo) (v : Value) (A : Nat → Prop) (ES : List (Int × Value)) (w : World), k.cells.length ≤ N → (Fo.node c k .nil).ok → FoIn W0 Bt (.node c k .nil) [v] → (∀ z ∈ vsF (.node c k .nil), r z < m) → SV W0 P EP b s ub A ES w → w.cell? ⟨ux, 0, none⟩ = some (.pointer (some ⟨ub, 0, none⟩)) → k.cells.length ≤ 100000 →
    Calls Try.prog 47 #[v, .func (.func 93) #[] #[.pointer (some ⟨ux, 0, none⟩)]] w (RepOut W0 P EP b s ub A c k w) := by
  intro N
  induction N using Nat.strongRecOn with
  | _ N ih =>
    intro c k v A ES w hN hok hfo hvs hs hux hlen
    have HAF0 : Hid (After W0 P EP b s ub A w w) := ⟨⟨ES, hs⟩, .refl _ _⟩
    have hfa := hfo.foA hs.low (A := A) (fun a ha => (hs.av a ha).1)
    obtain ⟨v', vr, e, hnode, _⟩ := hfo
    obtain ⟨rfl, rfl⟩ := List.cons.inj e
    rcases hnode with ⟨h0, rfl⟩ | ⟨h0, rfl⟩ | ⟨h0, rfl⟩ | ⟨h0, bc, g, vs, rfl, hcomp⟩
    · have hk : k = .nil := hok.2.2.2.1 (by rw [h0]; decide)
      subst hk
      obtain ⟨hce, hx⟩ := var_cell (t := (c, .nil)) hok h0
      have hrx : r c.2.1 < m := hvs _ ((vs_node c .nil .nil _).2 (.inl ⟨h0, rfl⟩))
      have HW := sol1_any W0 P EP b s ub r m hI ux c.2.1 A ES w hrx hx hs hux
      have HCE : Hid (c = (0, c.2.1, [])) := hce
      have HOO : Hid (∀ e w', (∃ g t y, e = .returned (.iface t y) ∧ FullF P (.node (0, c.2.1, []) .nil .nil) (Tr.fo g) ∧ FoA A w' (Tr.fo g) [.iface t y] ∧ After W0 P EP b s ub A w w') → ∃ t y, e = .returned (.iface t y) ∧ RepOut W0 P EP b s ub A c .nil w e w') := fun e w' ⟨g, t, y, h1, h2, h3⟩ => ⟨t, y, h1, g, t, y, h1, by rw [← HCE.out] at h2; exact h2, h3⟩
      have HW2 := HW.mono HOO.out
      obtain ⟨x, ex⟩ : ∃ x, x = c.2.1 := ⟨_, rfl⟩
      rw [← ex] at HW2 ⊢
      have n1 := isVar
      clear ih hok hs hx ex e hlen hfa hvs hrx hce HW HOO HCE HAF0
      go_enter Try.func47, Try.ntmps47
      go_wp2_with fail
      refine HW2.mono ?_
      rintro e w1 ⟨t, y, rfl, h1⟩
      have HF : Hid (RepOut W0 P EP b s ub A c .nil w (.returned (.iface t y)) w1) := h1
      clear h1 HW2
      go_wp2_with fail
      go_ret
      exact HF.out
    · have hk : k = .nil := hok.2.2.2.1 (by rw [h0]; decide)
      subst hk
      have n1 := noVar_num
      have n2 := noComp_num
      have HF : Hid (RepOut W0 P EP b s ub A c .nil w (.returned (.iface 139 (.int .i64 c.2.1))) w) := ⟨(c, .nil), _, _, rfl, .keep (fun h => by omega) .nil .nil, hfa, HAF0.out⟩
      obtain ⟨x, ex⟩ : ∃ x, x = Value.int .i64 c.2.1 := ⟨_, rfl⟩
      rw [← ex] at HF ⊢
      clear ih hok hs ex e hlen hfa hvs HAF0
      go_enter Try.func47, Try.ntmps47
      go_wp2_with fail
      go_ret
      exact HF.out
    · have hk : k = .nil := hok.2.2.2.1 (by rw [h0]; decide)
      subst hk
      have n1 := noVar_atom
      have n2 := noComp_atom
      have HF : Hid (RepOut W0 P EP b s ub A c .nil w (.returned (.iface 140 (.string (strOfNums c.2.2)))) w) := ⟨(c, .nil), _, _, rfl, .keep (fun h => by omega) .nil .nil, hfa, HAF0.out⟩
      obtain ⟨x, ex⟩ : ∃ x, x = Value.string (strOfNums c.2.2) := ⟨_, rfl⟩
      rw [← ex] at HF ⊢
      clear ih hok hs ex e hlen hfa hvs HAF0
      go_enter Try.func47, Try.ntmps47
      go_wp2_with fail
      go_ret
      exact HF.out
    · have n1 := noVar_comp
      have n2 := isComp
      have HC : Hid (CompAt W0 Bt c.2.2 k bc g vs) := hcomp
      have hvl2 : vs.length = k.count := FoIn.count _ _ hcomp.2.2.2.2.2.2
      obtain ⟨q, eq⟩ : ∃ q, q = vs.length := ⟨_, rfl⟩
      have HE : Hid (q = vs.length ∧ vs.length = k.count) := ⟨eq, hvl2⟩
      have hq : q ≤ 100000 := by have := Fo.count_le k; omega
      have HK : Hid k.ok := hok.2.2.2.2.1
      have HVS : Hid (∀ z ∈ vsF k, r z < m) := fun z hz => hvs z ((vs_node c k .nil z).2 (.inr (.inl hz)))
      have d0 := (hs.low.cell (World.block_lt_of_cell? _ _ hcomp.2.2.1)).trans hcomp.2.2.1
      have d1 := (hs.low.cell (World.block_lt_of_cell? _ _ hcomp.2.2.2.1)).trans hcomp.2.2.2.1
      rw [← eq] at d1
      have HS : Hid (SV W0 P EP b s ub A ES w) := hs
      have HUX : Hid (w.cell? ⟨ux, 0, none⟩ = some (.pointer (some ⟨ub, 0, none⟩))) := hux
      have HIH : Hid _ := ih
      have H0 : Hid (c.1 = 3) := h0
      obtain ⟨str, es⟩ : ∃ str, str = strOfNums c.2.2 := ⟨_, rfl⟩
      rw [← es] at d0
      have HES : Hid (str = strOfNums c.2.2) := es
      obtain ⟨i0, hi, hz0, hz1, hz2⟩ := info_parts infoTerm
      have hmx : q ≤ maxLen := by unfold maxLen; omega
      clear ih hok hs e hcomp eq hvl2 es h0 hfa hvs HAF0 hux
      go_enter Try.func47, Try.ntmps47
      go_wp2_with (at_make; refine wpList_make_full _ rfl _ _ 109 rfl w.heap.size 53 i0 .nilIface 1 Try.underlying109 hi hz0 hz1 _ _ _ _ q rfl rfl rfl rfl (by rw [hz2]; omega) hmx (Nat.le_refl _) ?_; intro w1 hown hgrow; have d0' := ((World.cell?_of_block (w := w) (a := ⟨bc, 0, none⟩) (hgrow.block bc (World.block_lt_of_cell? _ _ d0) (fun h => by cases h)))).trans d0; have d1' := ((World.cell?_of_block (w := w) (a := ⟨bc, 1, none⟩) (hgrow.block bc (World.block_lt_of_cell? _ _ d1) (fun h => by cases h)))).trans d1)
      obtain ⟨A1, eA1⟩ : ∃ A1 : Nat → Prop, A1 = fun a => A a ∨ a = w.heap.size := ⟨_, rfl⟩
      have HA1 : Hid (∀ a, A1 a ↔ A a ∨ a = w.heap.size) := fun a => by rw [eA1]
      have HO1 : Hid (w1.ownsRow w.heap.size 53 1 (.slice (some ⟨w.heap.size, 0, none⟩) q q) q ([] ++ List.replicate (q - 0) .nilIface)) := by
        have := hown
        simp [Value.cells, toList_madeCells_one] at this
        exact this
      have hs1 : w.heap.size + 1 ≤ w1.heap.size := by have := (hown.lt w.heap.size rfl).2; omega
      have HG1 : Hid (w.grownBy w1 (some s)) := ⟨hgrow.os, hgrow.tape, hgrow.output, hgrow.size, fun k hk _ => hgrow.block k hk (by simp)⟩
      have HSV1 : Hid (SV W0 P EP b s ub A1 ES w1) := by
        have hB : Below w.heap.size w w1 := ⟨hgrow.os, hgrow.tape, hgrow.output, hgrow.size, fun k hk => hgrow.block k hk (by simp)⟩
        refine HS.out.move (Below.on HS.out.low hB) (hB.block _ HS.out.bnd.lt) (hB.block _ HS.out.sol.lt) (hB.block _ (World.block_lt_of_cell? _ _ HS.out.ubc)) (fun p v hp hv => ?_) hB.size (fun a ha => ?_)
        · have hlt := World.block_lt_of_cell? _ _ hv
          refine ⟨fun ha => ?_, (hB.cell hlt).trans hv⟩
          rcases (HA1.out _).1 ha with h | h
          · exact hp h
          · omega
        · rcases (HA1.out _).1 ha with h | h
          · have := HS.out.av a h; omega
          · have := HS.out.low.size; omega
      clear hown hgrow hi hz0 hz1 hz2 d0 d1 d0' d1' eA1
      go_loopw [31] (fun i wr => ∃ (D R GD : Fo) (us vs2 ns : List Value) (j : Nat), j ≤ q ∧ i = .int .i64 j ∧ Hid (k = D.cat R ∧ vs = us ++ vs2 ∧ us.length = j ∧ ns.length = j) ∧ Hid (FoIn W0 Bt R vs2) ∧
        Hid (wr.ownsRow w.heap.size 53 1 (.slice (some ⟨w.heap.size, 0, none⟩) q q) q (ns ++ List.replicate (q - j) .nilIface)) ∧ Hid (FullF P D GD ∧ FoA A1 wr GD ns) ∧ Hid (∃ ES, SV W0 P EP b s ub A1 ES wr) ∧ Hid (w.grownBy wr (some s)) ∧ w.heap.size + 1 ≤ wr.heap.size) (fun i _ => q - (intOf i).toNat)
      case atStart => exact ⟨.nil, k, .nil, [], vs, [], 0, Nat.zero_le _, rfl, ⟨rfl, rfl, rfl, rfl⟩, HC.out.2.2.2.2.2.2, HO1, ⟨.nil, rfl⟩, ⟨ES, HSV1.out⟩, HG1, hs1⟩
      case round =>
        obtain ⟨D, R, GD, us, vs2, ns, j, hj, rfl, HF, HR, HO, HFO, HSV, HG, hsz⟩ := hrel
        obtain ⟨ESr, hsr⟩ := HSV.out
        have hwr : Below W0.heap.size W0 wr := hsr.low
        by_cases hlt : j < q
        · obtain ⟨c', k', r', rfl⟩ : ∃ c' k' r', R = .node c' k' r' := by
            cases R with
            | nil =>
              have h1 := HF.out
              have h2 : vs2 = [] := HR.out
              have h3 := HE.out.1
              rw [h1.2.1, h2, List.append_nil] at h3
              omega
            | node c' k' r' => exact ⟨c', k', r', rfl⟩
          obtain ⟨v, vr, rfl, hnode, hrest⟩ := HR.out
          have hok2 := (Fo.ok_cat D (.node c' k' r')).1 (HF.out.1 ▸ HK.out)
          have hl2 : D.cells.length + (k'.cells.length + r'.cells.length + 1) = k.cells.length := by
            rw [HF.out.1, Fo.cells_cat]; simp [Fo.cells]
          have hat : W0.cell? ⟨g, j, none⟩ = some v := by
            rw [HC.out.2.2.2.2.2.1 j (by rw [← HE.out.1]; exact hlt), HF.out.2.1]
            simp [List.getD, HF.out.2.2.1]
          have c5 : wr.cell? ⟨g, j, none⟩ = some v := (hwr.cell (World.block_lt_of_cell? _ _ hat)).trans hat
          have hvk : ∀ z ∈ vsF (.node c' k' .nil), r z < m := fun z hz => HVS.out z (by
            rw [HF.out.1]
            obtain ⟨cz, h1, h2, h3⟩ := vs_cell _ z hz
            rw [← h3]
            refine cell_vs _ cz ?_ h2
            rw [Fo.cells_cat]
            simp [Fo.cells] at h1 ⊢
            rcases h1 with h1 | h1
            · exact .inr (.inl h1)
            · exact .inr (.inr (.inl h1)))
          have HRC := HIH.out k'.cells.length (by omega) c' k' v A1 ESr wr (Nat.le_refl _) ⟨hok2.2.1, hok2.2.2.1, hok2.2.2.2.1, hok2.2.2.2.2.1, hok2.2.2.2.2.2.1, trivial⟩ ⟨v, [], rfl, hnode, rfl⟩ hvk hsr (HS.out.cell HG.out HUX.out) (by omega)
          obtain ⟨vt, vx, rfl⟩ := hnode.iface
          have HRR : Hid (FoIn W0 Bt r' vr) := hrest
          have HSR : Hid (SV W0 P EP b s ub A1 ESr wr) := hsr
          clear hok2 hl2 hat hwr hnode hrest HIH hvk hsr
          go_wp2_with fail
          refine HRC.mono ?_
          rintro e w3 ⟨g3, nt, nx, rfl, hfu3, hfo3, ⟨ES3, hsv3⟩, hg3⟩
          have hgs : w.heap.size ≠ s := by have := HS.out.sol.lt; omega
          have e0 : w3.cell? ⟨w.heap.size, j, none⟩ = some .nilIface := by
            have h1 : wr.cell? ⟨w.heap.size, j, none⟩ = some .nilIface := by
              rw [HO.out.cellAt j (by omega), List.getElem?_append_right (by have := HF.out.2.2.2; omega), List.getElem?_replicate, if_pos (by have := HF.out.2.2.2; omega)]
            exact cell_grown h1 hg3 hgs
          have e1 : w3.frozen? ⟨w.heap.size, j, none⟩ = false := by
            have hb3 := hg3.block w.heap.size (show w.heap.size < wr.heap.size by omega) (fun e => hgs (Option.some.inj e))
            exact (World.frozen?_of_block (a := ⟨w.heap.size, j, none⟩) hb3).trans (HO.out.frozenAt j)
          have HO3 : Hid (w3.ownsRow w.heap.size 53 1 (.slice (some ⟨w.heap.size, 0, none⟩) q q) q (ns ++ List.replicate (q - j) .nilIface)) := HO.out.kept hg3 (.inr (fun e => hgs (by simpa [Value.ownBlock] using e)))
          have HN : Hid (k = (D.cat (.node c' k' .nil)).cat r' ∧ vs = (us ++ [Value.iface vt vx]) ++ vr ∧ (us ++ [Value.iface vt vx]).length = j + 1 ∧ (ns ++ [Value.iface nt nx]).length = j + 1) := ⟨by rw [Fo.cat_assoc]; exact HF.out.1, by rw [HF.out.2.1]; simp, by simp [HF.out.2.2.1], by simp [HF.out.2.2.2]⟩
          have hst : ∀ p v, ¬ A1 p.block → w3.cell? p = some v → ¬ A1 p.block ∧ (w3.setCell ⟨w.heap.size, j, none⟩ (.iface nt nx)).cell? p = some v := fun p v hp hv => ⟨hp, by
            rw [World.cell?_setCell_other _ _ _ _ (fun e => hp ((HA1.out _).2 (.inr (by rw [← e]))))]
            exact hv⟩
          have HF3 : Hid (FullF P (D.cat (.node c' k' .nil)) (GD.cat g3.fo) ∧ FoA A1 (w3.setCell ⟨w.heap.size, j, none⟩ (.iface nt nx)) (GD.cat g3.fo) (ns ++ [Value.iface nt nx])) := by
            refine ⟨HFO.out.1.cat hfu3, ?_⟩
            have h1 : FoA A1 w3 GD ns := HFO.out.2.move (fun p v hp hv => ⟨hp, HSR.out.cell hg3 hv⟩) hg3.size
            exact FoA.move (FoIn.cat _ _ _ _ h1 hfo3) hst (by simp)
          have HG3 : Hid (w.grownBy (w3.setCell ⟨w.heap.size, j, none⟩ (.iface nt nx)) (some s)) := by
            have h1 := HG.out.andThen hg3 (fun j hj => .inr hj)
            exact ⟨h1.os, h1.tape, h1.output, by simpa using h1.size, fun k hk hr => (Below.heap_setCell _ _ _ _ (by simp; omega)).trans (h1.block k hk hr)⟩
          have HSV3 : Hid (∃ ES, SV W0 P EP b s ub A1 ES (w3.setCell ⟨w.heap.size, j, none⟩ (.iface nt nx))) := by
            refine ⟨ES3, hsv3.move ?_ ?_ ?_ ?_ hst (by simp) (fun a ha => by have := hsv3.av a ha; simpa using this)⟩
            · exact hsv3.low.setCell (p := ⟨w.heap.size, j, none⟩) HS.out.low.size _
            · exact Below.heap_setCell _ _ _ _ (by have := HS.out.bnd.lt; simp; omega)
            · exact Below.heap_setCell _ _ _ _ (by have := HS.out.sol.lt; simp; omega)
            · exact Below.heap_setCell _ _ _ _ (by have := World.block_lt_of_cell? _ _ HS.out.ubc; simp at this ⊢; omega)
          have hsz3 : w.heap.size + 1 ≤ w3.heap.size := Nat.le_trans hsz hg3.size
          clear hg3 hfo3 HRC hsv3 hfu3 hst hgs HSR
          go_wp2_with fail
          go_roundw
          case rel => exact ⟨D.cat (.node c' k' .nil), r', GD.cat g3.fo, us ++ [Value.iface vt vx], vr, ns ++ [Value.iface nt nx], j + 1, by omega, by go_num, HN, HRR, row_next HO3.out HF.out.2.2.2 hlt _, HF3, HSV3, HG3, by simpa using hsz3⟩
          case measure => simp [intOf]; omega
        · obtain rfl : j = q := by omega
          obtain rfl : R = .nil := by
            have h1 := FoIn.count _ _ HR.out
            have h2 := HE.out
            rw [HF.out.2.1, List.length_append] at h2
            have h3 := HF.out.2.2.1
            cases R with
            | nil => rfl
            | node a b d => simp [Fo.count] at h1; omega
          have hD : D = k := by have := HF.out.1; rw [Fo.cat_nil] at this; exact this.symm
          subst hD
          have x0 : wr.cell? ⟨bc, 0, none⟩ = some (.string str) := by
            rw [HES.out]
            exact (hwr.cell (World.block_lt_of_cell? _ _ HC.out.2.2.1)).trans HC.out.2.2.1
          have hns := HF.out.2.2.2
          have HFIN : Hid (RepOut W0 P EP b s ub A c D w (.returned (.iface 108 (.pointer (some ⟨wr.heap.size, 0, none⟩)))) (wr.alloc (Obj.cells #[Value.string str, Value.slice (some ⟨w.heap.size, 0, none⟩) j j] 111))) := by
            have hal : Below wr.heap.size wr (wr.alloc (Obj.cells #[Value.string str, Value.slice (some ⟨w.heap.size, 0, none⟩) j j] 111)) := (Below.refl _ _).alloc (Nat.le_refl _) _
            have hnew := heap_alloc_new wr (Obj.cells #[Value.string str, Value.slice (some ⟨w.heap.size, 0, none⟩) j j] 111)
            have hmv : ∀ p v, ¬ A1 p.block → wr.cell? p = some v → ¬ A p.block ∧ (wr.alloc (Obj.cells #[Value.string str, Value.slice (some ⟨w.heap.size, 0, none⟩) j j] 111)).cell? p = some v := fun p v hp hv => ⟨fun ha => hp ((HA1.out _).2 (.inl ha)), (hal.cell (World.block_lt_of_cell? _ _ hv)).trans hv⟩
            have hnA : ∀ a, w.heap.size ≤ a → ¬ A a := fun a ha h => by have := HS.out.av a h; omega
            refine ⟨(c, GD), _, _, rfl, .keep (fun h => by have := H0.out; omega) HFO.out.1 .nil, ?_, ⟨⟨ESr, ?_⟩, ?_⟩⟩
            · refine ⟨_, [], rfl, .inr (.inr (.inr ⟨H0.out, wr.heap.size, w.heap.size, ns, rfl, Nat.zero_le _, Nat.zero_le _, strikeA_cell.2 ⟨hnA _ (by show w.heap.size ≤ wr.heap.size; omega), by rw [← HES.out]; exact cell_of_row _ _ 0 _ _ _ hnew⟩, strikeA_cell.2 ⟨hnA _ (by show w.heap.size ≤ wr.heap.size; omega), by rw [hns]; exact cell_of_row _ _ 1 _ _ _ hnew⟩, by rw [strikeA_size]; simp; omega, fun i hi => strikeA_cell.2 ⟨hnA _ (Nat.le_refl _), ?_⟩, ?_⟩)), rfl⟩
              · refine Lib.cell?_alloc_marked _ ?_
                rw [HO.out.cellAt i (by omega), List.getElem?_append_left (by omega)]
                simp [List.getD, hi]
              · exact HFO.out.2.move hmv (by simp)
            · refine hsr.move (Below.on hsr.low hal) (hal.block _ hsr.bnd.lt) (hal.block _ hsr.sol.lt) (hal.block _ (World.block_lt_of_cell? _ _ hsr.ubc)) hmv (by simp) (fun a ha => ?_)
              have := HS.out.av a ha
              simp
              omega
            · exact HG.out.andThen (World.grownBy_alloc wr _ (some s)) (fun j hj => .inr hj)
          clear hns hsr hwr
          go_wp2_with fail
          go_ret
          exact HFIN.out
end

end Go.Proofs.Ytedlcmkhbccjgaa

namespace Go.Proofs.Ytedlcmkhbccjgaa
open Go Go.RowKit
set_option linter.unusedVariables false

/-- The cells, each counted up to a bound. -/
noncomputable def szU (P : BM) (cs : List Cel) : Nat := sumN (cs.map fun c => min (putC P c).length 2001)
theorem sumN_app : ∀ a b : List Nat, sumN (a ++ b) = sumN a + sumN b
  | [], b => by simp [sumN]
  | x :: a, b => by simp [sumN, sumN_app a b]; omega
theorem szU_app (P : BM) (a b : List Cel) : szU P (a ++ b) = szU P a + szU P b := by simp [szU, sumN_app]
theorem szU_bound (P : BM) : ∀ cs : List Cel, szU P cs ≤ 2001 * cs.length
  | [] => by simp [szU, sumN]
  | c :: r => by
    have := szU_bound P r
    simp only [szU, List.map_cons, sumN, List.length_cons] at this ⊢
    omega
theorem full_var {P : BM} {x : Int} {g : Tr} (h : FullF P (.node (0, x, []) .nil .nil) g.fo) : tcs g = putC P (0, x, []) := by
  have := full_cells h
  simpa [Tr.fo, Fo.cells, tcs] using this
/-- What is kept but for two blocks. -/
structure K2 (w w' : World) (x y : Nat) : Prop where
  os : w'.os = w.os
  tape : w'.tape = w.tape
  output : w'.output = w.output
  size : w.heap.size ≤ w'.heap.size
  block : ∀ k, k < w.heap.size → k ≠ x → k ≠ y → w'.heap[k]? = w.heap[k]?
theorem K2.refl (w : World) (x y : Nat) : K2 w w x y := ⟨rfl, rfl, rfl, Nat.le_refl _, fun _ _ _ _ => rfl⟩
theorem K2.trans {a b c : World} {x y : Nat} (h : K2 a b x y) (k : K2 b c x y) : K2 a c x y := ⟨k.os.trans h.os, k.tape.trans h.tape, k.output.trans h.output, Nat.le_trans h.size k.size, fun i hi h1 h2 => (k.block i (Nat.lt_of_lt_of_le hi h.size) h1 h2).trans (h.block i hi h1 h2)⟩
theorem K2.of {w w' : World} {x y : Nat} (h : w.grownBy w' (some y)) : K2 w w' x y := ⟨h.os, h.tape, h.output, h.size, fun k hk _ h2 => h.block k hk (fun e => h2 (Option.some.inj e))⟩
theorem K2.set (w : World) (x y o : Nat) (v : Value) : K2 w (w.setCell ⟨x, o, none⟩ v) x y := ⟨rfl, rfl, rfl, by simp, fun k hk h1 _ => Below.heap_setCell _ _ _ _ (by simpa using h1)⟩
theorem K2.drew (w : World) (x y : Nat) : K2 w w.drew x y := ⟨rfl, rfl, rfl, Nat.le_refl _, fun _ _ _ _ => rfl⟩
section
variable (W0 : World) (Bt : Nat) (P : BM) (EP : List (Int × Value)) (b s ub : Nat) (r : Int → Nat) (m : Nat)
/-- What the walk that counts has. -/
structure SzU (A : Nat → Prop) (cb fb ux acc : Nat) (W : World) : Prop where
  cnt : W.cell? ⟨cb, 0, none⟩ = some (.int .i64 acc)
  free : W.frozen? ⟨cb, 0, none⟩ = false
  fn : W.cell? ⟨fb, 0, none⟩ = some (.func (.func 94) #[] #[.pointer (some ⟨ux, 0, none⟩)])
  uxc : W.cell? ⟨ux, 0, none⟩ = some (.pointer (some ⟨ub, 0, none⟩))
  sv : ∃ ES, SV W0 P EP b s ub A ES W
  ne1 : fb ≠ cb
  ne2 : ux ≠ cb
  ne3 : b ≠ cb
  ne4 : s ≠ cb
  ne5 : ub ≠ cb
  low : W0.heap.size ≤ cb
  av : A cb
theorem SzU.after {A : Nat → Prop} {cb fb ux acc : Nat} {W W' : World} (h : SzU W0 P EP b s ub A cb fb ux acc W) (ha : After W0 P EP b s ub A W W') : SzU W0 P EP b s ub A cb fb ux acc W' := by
  obtain ⟨ES, hs⟩ := h.sv
  obtain ⟨hsv, hg⟩ := ha
  exact ⟨hs.cell hg h.cnt, frz_grown h.cnt h.free hg (fun e => h.ne4 e.symm), hs.cell hg h.fn, hs.cell hg h.uxc, hsv, h.ne1, h.ne2, h.ne3, h.ne4, h.ne5, h.low, h.av⟩
theorem SzU.set {A : Nat → Prop} {cb fb ux acc : Nat} {W : World} (h : SzU W0 P EP b s ub A cb fb ux acc W) (a : Nat) : SzU W0 P EP b s ub A cb fb ux a (W.setCell ⟨cb, 0, none⟩ (.int .i64 a)) := by
  obtain ⟨ES, hs⟩ := h.sv
  refine ⟨World.cell?_setCell_same' _ _ _ (by rw [h.cnt]; rfl), by rw [World.frozen?_setCell]; exact h.free, ?_, ?_, ⟨ES, ?_⟩, h.ne1, h.ne2, h.ne3, h.ne4, h.ne5, h.low, h.av⟩
  · rw [World.cell?_setCell_other _ _ _ _ (fun e => h.ne1 (congrArg Addr.block e).symm)]; exact h.fn
  · rw [World.cell?_setCell_other _ _ _ _ (fun e => h.ne2 (congrArg Addr.block e).symm)]; exact h.uxc
  · refine hs.move (hs.low.setCell (p := ⟨cb, 0, none⟩) h.low _) (Below.heap_setCell _ _ _ _ h.ne3) (Below.heap_setCell _ _ _ _ h.ne4) (Below.heap_setCell _ _ _ _ h.ne5) (fun p v hp hv => ⟨hp, ?_⟩) (by simp) (fun a ha => by simpa using hs.av a ha)
    rw [World.cell?_setCell_other _ _ _ _ (fun e => hp (by rw [← e]; exact h.av))]
    exact hv
theorem SzU.drew {A : Nat → Prop} {cb fb ux acc : Nat} {W : World} (h : SzU W0 P EP b s ub A cb fb ux acc W) : SzU W0 P EP b s ub A cb fb ux acc W.drew := by
  obtain ⟨ES, hs⟩ := h.sv
  exact ⟨h.cnt, h.free, h.fn, h.uxc, ⟨ES, hs.grow (gdrew (.refl _ _))⟩, h.ne1, h.ne2, h.ne3, h.ne4, h.ne5, h.low, h.av⟩
def SzO (A : Nat → Prop) (cb fb ux acc : Nat) (w : World) (e : Ending) (w' : World) : Prop := e = .returned (.tuple #[]) ∧ SzU W0 P EP b s ub A cb fb ux acc w' ∧ K2 w w' cb s

set_option maxRecDepth 100000 in
set_option maxHeartbeats 1000000 in
theorem sizeVisitU_any (hI : SolveOk W0 P EP b s ub r m) (A : Nat → Prop) (cb fb ux acc : Nat) (c : Cel) (k : Fo) (v : Value) (w : World) (hok : (Fo.node c k .nil).ok) (hacc : acc ≤ 100000000) (hn : NodeIn W0 Bt c (fun kv => FoIn W0 Bt k kv) v) (hr : c.1 = 0 → r c.2.1 < m) (hs : SzU W0 P EP b s ub A cb fb ux acc w) :
    Calls Try.prog 73 #[v, .pointer (some ⟨cb, 0, none⟩), .pointer (some ⟨fb, 0, none⟩)] w (SzO W0 P EP b s ub A cb fb ux (acc + szU P [c]) w) := by
  by_cases h0 : c.1 = 0
  · have hv : v = .iface 67 (.int .i64 c.2.1) := by
      rcases hn with ⟨_, e⟩ | ⟨e, _⟩ | ⟨e, _⟩ | ⟨e, _⟩
      · exact e
      · omega
      · omega
      · omega
    subst hv
    obtain ⟨hce, hx⟩ := var_cell (t := (c, .nil)) (by
      have hk : k = .nil := hok.2.2.2.1 (by rw [h0]; decide)
      subst hk
      exact hok) h0
    have hd := hs.drew
    obtain ⟨ES, hsv⟩ := hd.sv
    have HS := sol2_any W0 P EP b s ub r m hI ux c.2.1 A ES w.drew (hr h0) hx hsv hd.uxc
    have HOO : Hid (∀ (e : Ending) (w' : World), (∃ g, e = .returned (.int .i64 ((min (tcs g).length 2001 : Nat) : Int)) ∧ FullF P (.node (0, c.2.1, []) .nil .nil) (Tr.fo g) ∧ After W0 P EP b s ub A w.drew w') → e = .returned (.int .i64 ((szU P [c] : Nat) : Int)) ∧ SzU W0 P EP b s ub A cb fb ux acc w' ∧ K2 w w' cb s) := fun e w' ⟨g, h1, h2, h3⟩ => by
      have h4 : tcs g = putC P c := by
        have := full_var h2
        rw [← hce] at this
        exact this
      refine ⟨?_, hd.after W0 P EP b s ub h3, (K2.drew w cb s).trans (.of h3.2)⟩
      rw [h1, h4]
      simp [szU, sumN]
    have HS2 := HS.mono HOO.out
    have hzb := szU_bound P [c]
    have hc0 := hs.cnt
    have hf0 := hs.free
    have hfn := hs.fn
    have huc := hs.uxc
    obtain ⟨x, ex⟩ : ∃ x, x = c.2.1 := ⟨_, rfl⟩
    obtain ⟨z, ez⟩ : ∃ z, z = szU P [c] := ⟨_, rfl⟩
    rw [← ez] at HS2 hzb ⊢
    rw [← ex] at HS2 ⊢
    have HWR : Hid (IntKind.i64.wrap ((acc : Int) + (z : Int)) = ((acc + z : Nat) : Int)) := by show _ = _; rw [IntKind.wrap_i64]; simp at hzb; omega
    have a1 := isVar
    clear hs hn hok hx ex ez h0 hsv hd HS HOO hr hce hI
    go_enter Try.func73, Try.ntmps73
    go_wp2_with fail
    go_region_with ((go_at_call 94; refine HS2.mono ?_; rintro e w3 ⟨rfl, hs3, hk3⟩; have hc3 := hs3.cnt; have hf3 := hs3.free; have HF3 : Hid (SzO W0 P EP b s ub A cb fb ux (acc + z) w (.returned (.tuple #[])) (w3.setCell ⟨cb, 0, none⟩ (.int .i64 ((acc + z : Nat) : Int)))) := ⟨rfl, hs3.set W0 P EP b s ub _, hk3.trans (K2.set _ _ _ _ _)⟩; clear hs3 hk3))
    all_goals go_wp2_with fail
    all_goals go_end0
    all_goals (rw [HWR.out]; exact HF3.out)
  · have hz : szU P [c] = 1 := by simp [szU, sumN, putC, h0]
    have hty : ∃ t y, v = .iface t y ∧ ∀ W, (Instr.typeAssert (.iface t y) 53 67 true).run Try.prog W = .ok (.tuple #[.int .i64 0, .bool false]) W := by
      rcases hn with ⟨e, _⟩ | ⟨_, e⟩ | ⟨_, e⟩ | ⟨_, b, g, vs, e, _⟩
      · exact absurd e h0
      · exact ⟨_, _, e, fun W => noVar_num W _⟩
      · exact ⟨_, _, e, fun W => noVar_atom W _⟩
      · exact ⟨_, _, e, fun W => noVar_comp W _⟩
    obtain ⟨t, y, rfl, a1⟩ := hty
    have hc0 := hs.cnt
    have hf0 := hs.free
    have HF : Hid (SzO W0 P EP b s ub A cb fb ux (acc + szU P [c]) w (.returned (.tuple #[])) (w.setCell ⟨cb, 0, none⟩ (.int .i64 ((acc + 1 : Nat) : Int)))) := ⟨rfl, by rw [hz]; exact hs.set W0 P EP b s ub _, K2.set _ _ _ _ _⟩
    clear hs hn hok hz h0 hr hI
    go_enter Try.func73, Try.ntmps73
    go_wp2_with fail
    go_end0
    exact HF.out
end

end Go.Proofs.Ytedlcmkhbccjgaa

namespace Go.Proofs.Ytedlcmkhbccjgaa
open Go Go.RowKit
set_option linter.unusedVariables false

section
variable (W0 : World) (Bt : Nat) (P : BM) (EP : List (Int × Value)) (b s ub : Nat) (r : Int → Nat) (m : Nat)
set_option maxRecDepth 100000 in
set_option maxHeartbeats 1000000 in
theorem sizeWalkU_any (hI : SolveOk W0 P EP b s ub r m) (A : Nat → Prop) (cb fb ux : Nat) : ∀ (N : Nat) (c : Cel) (k : Fo) (v : Value) (acc : Nat) (w : World), k.cells.length ≤ N → (Fo.node c k .nil).ok → FoIn W0 Bt (.node c k .nil) [v] → (∀ z ∈ vsF (.node c k .nil), r z < m) → SzU W0 P EP b s ub A cb fb ux acc w → acc + 2001 * (1 + k.cells.length) ≤ 100000000 →
    Calls Try.prog 72 #[v, .func (.func 73) #[] #[.pointer (some ⟨cb, 0, none⟩), .pointer (some ⟨fb, 0, none⟩)]] w (SzO W0 P EP b s ub A cb fb ux (acc + szU P (c :: k.cells)) w) := by
  intro N
  induction N using Nat.strongRecOn with
  | _ N ih =>
    intro c k v acc w hN hok hfo hvs hs hlen
    obtain ⟨v', vr, e, hnode, _⟩ := hfo
    obtain ⟨rfl, rfl⟩ := List.cons.inj e
    have HV := sizeVisitU_any W0 Bt P EP b s ub r m hI A cb fb ux acc c k v w hok (by omega) hnode (fun h0 => hvs _ ((vs_node c k .nil _).2 (.inl ⟨h0, rfl⟩))) hs
    have hz1 := szU_bound P [c]
    have hsplit : acc + szU P (c :: k.cells) = acc + szU P [c] + szU P k.cells := by
      have := szU_app P [c] k.cells
      simp only [List.singleton_append] at this
      omega
    rw [hsplit]
    have HIH : Hid _ := ih
    have HW : Hid (Below W0.heap.size W0 w) := by obtain ⟨ES, h⟩ := hs.sv; exact h.low
    have leaf : ∀ (t : TypeId) (x : Value), v = .iface t x → (t = 67 ∨ t = 139 ∨ t = 140) → c.1 ≠ 3 → Calls Try.prog 72 #[v, .func (.func 73) #[] #[.pointer (some ⟨cb, 0, none⟩), .pointer (some ⟨fb, 0, none⟩)]] w (SzO W0 P EP b s ub A cb fb ux (acc + szU P [c] + szU P k.cells) w) := fun t x hv ht h3 => by
      have hk : k = .nil := hok.2.2.2.1 h3
      subst hk hv
      have HA := fun W => argsLeaf_any t x W ht
      have hz : acc + szU P [c] + szU P Fo.nil.cells = acc + szU P [c] := rfl
      rw [hz]
      clear hok hnode hs HIH ih e hsplit hz hvs hI
      go_enter Try.func72, Try.ntmps72
      go_wp2_with fail
      refine HV.mono ?_
      rintro e w1 ⟨rfl, hst, hb⟩
      have HST : Hid (SzU W0 P EP b s ub A cb fb ux (acc + szU P [c]) w1 ∧ K2 w w1 cb s) := ⟨hst, hb⟩
      clear hst hb
      go_wp2_with fail
      refine (HA _).mono ?_
      rintro e w2 ⟨rfl, rfl⟩
      go_wp2_with fail
      refine wp_loop_rounds 1 ?_
      rw [rounds_succ]
      go_wp2_with fail
      go_end0
      exact ⟨rfl, HST.out⟩
    rcases hnode with ⟨h0, hv⟩ | ⟨h0, hv⟩ | ⟨h0, hv⟩ | ⟨h0, bc, g, vs, hv, hcomp⟩
    · exact leaf _ _ hv (.inl rfl) (by rw [h0]; decide)
    · exact leaf _ _ hv (.inr (.inl rfl)) (by rw [h0]; decide)
    · exact leaf _ _ hv (.inr (.inr rfl)) (by rw [h0]; decide)
    · subst hv
      clear leaf
      have HC : Hid (CompAt W0 Bt c.2.2 k bc g vs) := hcomp
      have hvl2 : vs.length = k.count := FoIn.count _ _ hcomp.2.2.2.2.2.2
      obtain ⟨q, eq⟩ : ∃ q, q = vs.length := ⟨_, rfl⟩
      have HE : Hid (q = vs.length ∧ vs.length = k.count) := ⟨eq, hvl2⟩
      have hq : q ≤ 100000 := by have := Fo.count_le k; omega
      have HK : Hid k.ok := hok.2.2.2.2.1
      have HVS : Hid (∀ z ∈ vsF k, r z < m) := fun z hz => hvs z ((vs_node c k .nil z).2 (.inr (.inl hz)))
      have HBB : Hid (bc < W0.heap.size ∧ W0.cell? ⟨bc, 1, none⟩ = some (.slice (some ⟨g, 0, none⟩) q q)) := ⟨World.block_lt_of_cell? _ _ hcomp.2.2.2.1, by rw [eq]; exact hcomp.2.2.2.1⟩
      have HLN : Hid (acc + 2001 * (1 + k.cells.length) ≤ 100000000 ∧ szU P [c] ≤ 2001) := ⟨hlen, by simpa using hz1⟩
      clear hcomp hok hs ih e eq hvl2 hvs hsplit hz1 hlen hI
      go_enter Try.func72, Try.ntmps72
      go_wp2_with fail
      refine HV.mono ?_
      rintro e w1 ⟨rfl, hst, hb1⟩
      have d1 : w1.cell? ⟨bc, 1, none⟩ = some (.slice (some ⟨g, 0, none⟩) q q) := by
        obtain ⟨ES, h⟩ := hst.sv
        exact (h.low.cell (p := ⟨bc, 1, none⟩) HBB.out.1).trans HBB.out.2
      have HST : Hid (SzU W0 P EP b s ub A cb fb ux (acc + szU P [c] + szU P Fo.nil.cells) w1) := hst
      have HB1 : Hid (K2 w w1 cb s) := hb1
      clear hst hb1 HV
      go_wp2_with fail
      refine (argsComp_any bc g q _ d1).mono ?_
      rintro e w2 ⟨rfl, hw2⟩
      subst hw2
      clear d1
      go_wp2_with fail
      go_loopw [12] (fun i wr => ∃ (D R : Fo) (us vs2 : List Value) (j : Nat), j ≤ q ∧ i = .int .i64 j ∧ Hid (k = D.cat R ∧ vs = us ++ vs2 ∧ us.length = j) ∧ Hid (FoIn W0 Bt R vs2) ∧ Hid (SzU W0 P EP b s ub A cb fb ux (acc + szU P [c] + szU P D.cells) wr) ∧ Hid (K2 w wr cb s)) (fun i _ => q - (intOf i).toNat)
      case atStart => exact ⟨.nil, k, [], vs, 0, Nat.zero_le _, rfl, ⟨rfl, rfl, rfl⟩, HC.out.2.2.2.2.2.2, HST, HB1⟩
      case round =>
        obtain ⟨D, R, us, vs2, j, hj, rfl, HF, HR, HS, HB⟩ := hrel
        by_cases hlt : j < q
        · obtain ⟨c', k', r', rfl⟩ : ∃ c' k' r', R = .node c' k' r' := by
            cases R with
            | nil =>
              have h1 := HF.out
              have h2 : vs2 = [] := HR.out
              have h3 := HE.out.1
              rw [h1.2.1, h2, List.append_nil] at h3
              omega
            | node c' k' r' => exact ⟨c', k', r', rfl⟩
          obtain ⟨v, vr, rfl, hnode, hrest⟩ := HR.out
          have hok2 := (Fo.ok_cat D (.node c' k' r')).1 (HF.out.1 ▸ HK.out)
          have hl2 : D.cells.length + (k'.cells.length + r'.cells.length + 1) = k.cells.length := by
            rw [HF.out.1, Fo.cells_cat]; simp [Fo.cells]
          have hat : W0.cell? ⟨g, j, none⟩ = some v := by
            rw [HC.out.2.2.2.2.2.1 j (by rw [← HE.out.1]; exact hlt), HF.out.2.1]
            simp [List.getD, HF.out.2.2]
          have c5 : wr.cell? ⟨g, j, none⟩ = some v := by
            obtain ⟨ES, h⟩ := HS.out.sv
            exact (h.low.cell (World.block_lt_of_cell? _ _ hat)).trans hat
          have hvk : ∀ z ∈ vsF (.node c' k' .nil), r z < m := fun z hz => HVS.out z (by
            rw [HF.out.1]
            obtain ⟨cz, h1, h2, h3⟩ := vs_cell _ z hz
            rw [← h3]
            refine cell_vs _ cz ?_ h2
            rw [Fo.cells_cat]
            simp [Fo.cells] at h1 ⊢
            rcases h1 with h1 | h1
            · exact .inr (.inl h1)
            · exact .inr (.inr (.inl h1)))
          have hbD := szU_bound P D.cells
          have HWK := HIH.out k'.cells.length (by omega) c' k' v (acc + szU P [c] + szU P D.cells) wr (Nat.le_refl _) ⟨hok2.2.1, hok2.2.2.1, hok2.2.2.2.1, hok2.2.2.2.2.1, hok2.2.2.2.2.2.1, trivial⟩ ⟨v, [], rfl, hnode, rfl⟩ hvk HS.out (by have := HLN.out; omega)
          obtain ⟨vt, vx, rfl⟩ := hnode.iface
          have HRR : Hid (FoIn W0 Bt r' vr) := hrest
          clear hok2 hl2 hat hnode hrest HIH hvk hbD
          go_wp2_with fail
          refine HWK.mono ?_
          rintro e w3 ⟨rfl, hst3, hb3⟩
          have HN : Hid (k = (D.cat (.node c' k' .nil)).cat r' ∧ vs = (us ++ [.iface vt vx]) ++ vr ∧ (us ++ [Value.iface vt vx]).length = j + 1) := ⟨by rw [Fo.cat_assoc]; exact HF.out.1, by rw [HF.out.2.1]; simp, by simp [HF.out.2.2]⟩
          have HST3 : Hid (SzU W0 P EP b s ub A cb fb ux (acc + szU P [c] + szU P (D.cat (.node c' k' .nil)).cells) w3) := by
            have e : acc + szU P [c] + szU P D.cells + szU P (c' :: k'.cells) = acc + szU P [c] + szU P (D.cat (.node c' k' .nil)).cells := by
              rw [Fo.cells_cat, szU_app]
              have : (Fo.node c' k' .nil).cells = c' :: k'.cells := by simp [Fo.cells]
              rw [this]
              omega
            rw [← e]; exact hst3
          have HB3 : Hid (K2 w w3 cb s) := HB.out.trans hb3
          clear hst3 hb3 HWK
          go_wp2_with fail
          go_roundw
          case rel => exact ⟨D.cat (.node c' k' .nil), r', us ++ [.iface vt vx], vr, j + 1, by omega, by go_num, HN, HRR, HST3, HB3⟩
          case measure => simp [intOf]; omega
        · obtain rfl : j = q := by omega
          obtain rfl : R = .nil := by
            have h1 := FoIn.count _ _ HR.out
            have h2 := HE.out
            rw [HF.out.2.1, List.length_append] at h2
            have h3 := HF.out.2.2
            cases R with
            | nil => rfl
            | node a b d => simp [Fo.count] at h1; omega
          have HF' : Hid (D = k) := by have := HF.out.1; rw [Fo.cat_nil] at this; exact this.symm
          go_wp2_with fail
          go_end0
          refine ⟨rfl, ?_, HB.out⟩
          have h1 := HS.out
          rwa [HF'.out] at h1
set_option maxRecDepth 100000 in
set_option maxHeartbeats 1000000 in
theorem sizeWithU_any (hI : SolveOk W0 P EP b s ub r m) (A : Nat → Prop) (ux : Nat) (t : Tr) (v : Value) (ES : List (Int × Value)) (w : World) (hok : t.fo.ok) (hfo : FoIn W0 Bt t.fo [v]) (hvs : ∀ z ∈ vsT t, r z < m) (hl : (tcs t).length ≤ 2000) (hs : SV W0 P EP b s ub A ES w) (hux : w.cell? ⟨ux, 0, none⟩ = some (.pointer (some ⟨ub, 0, none⟩))) :
    Calls Try.prog 44 #[v, .func (.func 94) #[] #[.pointer (some ⟨ux, 0, none⟩)]] w fun e w' => e = .returned (.int .i64 ((min (szU P (tcs t)) 2001 : Nat) : Int)) ∧ After W0 P EP b s ub A w w' := by
  obtain ⟨wb, ewb⟩ : ∃ wb, wb = (w.alloc (.cells #[.func (.func 94) #[] #[.pointer (some ⟨ux, 0, none⟩)]] 69)).alloc (.cells #[.int .i64 0] 3) := ⟨_, rfl⟩
  have hgn : w.grownBy wb none := by rw [ewb]; exact (World.grownBy_alloc w _ none).andThen (World.grownBy_alloc _ _ none) (fun j hj => .inr hj)
  have hB : Below w.heap.size w wb := ⟨hgn.os, hgn.tape, hgn.output, hgn.size, fun k hk => hgn.block k hk (by simp)⟩
  have k0 : wb.heap[w.heap.size]? = some (.cells #[.func (.func 94) #[] #[.pointer (some ⟨ux, 0, none⟩)]] 69) := by rw [ewb]; exact (Below.heap_alloc _ _ _ (by simp)).trans (heap_alloc_new _ _)
  have k1 : wb.heap[w.heap.size + 1]? = some (.cells #[.int .i64 0] 3) := by
    have := heap_alloc_new (w.alloc (.cells #[.func (.func 94) #[] #[.pointer (some ⟨ux, 0, none⟩)]] 69)) (.cells #[.int .i64 0] 3)
    rw [World.size_alloc] at this
    rw [ewb]; exact this
  have hwsz : wb.heap.size = w.heap.size + 2 := by rw [ewb]; simp
  obtain ⟨A1, eA1⟩ : ∃ A1 : Nat → Prop, A1 = fun a => A a ∨ a = w.heap.size + 1 := ⟨_, rfl⟩
  have HA1 : Hid (∀ a, A1 a ↔ A a ∨ a = w.heap.size + 1) := fun a => by rw [eA1]
  have hsv1 : SV W0 P EP b s ub A1 ES wb := by
    refine hs.move (Below.on hs.low hB) (hB.block _ hs.bnd.lt) (hB.block _ hs.sol.lt) (hB.block _ (World.block_lt_of_cell? _ _ hs.ubc)) (fun p v hp hv => ?_) hB.size (fun a ha => ?_)
    · have hlt := World.block_lt_of_cell? _ _ hv
      refine ⟨fun ha => ?_, (hB.cell hlt).trans hv⟩
      rcases (HA1.out _).1 ha with h | h
      · exact hp h
      · omega
    · rcases (HA1.out _).1 ha with h | h
      · have := hs.av a h; omega
      · have := hs.low.size; omega
  have hul := World.block_lt_of_cell? _ _ hux
  have hubl := World.block_lt_of_cell? _ _ hs.ubc
  simp only at hul hubl
  have hS : SzU W0 P EP b s ub A1 (w.heap.size + 1) w.heap.size ux 0 wb := ⟨cell_of_row _ _ 0 _ _ _ k1, frozen_of_row _ _ 0 _ _ k1, cell_of_row _ _ 0 _ _ _ k0, (hB.cell hul).trans hux, ⟨ES, hsv1⟩, by omega, by omega, by have := hs.bnd.lt; omega, by have := hs.sol.lt; omega, by omega, by have := hs.low.size; omega, (HA1.out _).2 (.inr rfl)⟩
  have HW := sizeWalkU_any W0 Bt P EP b s ub r m hI A1 (w.heap.size + 1) w.heap.size ux t.2.cells.length t.1 t.2 v 0 wb (Nat.le_refl _) hok hfo hvs hS (by simp only [tcs, List.length_cons] at hl; omega)
  have HOO : Hid (∀ e w', SzO W0 P EP b s ub A1 (w.heap.size + 1) w.heap.size ux (0 + szU P (t.1 :: t.2.cells)) wb e w' → e = .returned (.tuple #[]) ∧ w'.cell? ⟨w.heap.size + 1, 0, none⟩ = some (.int .i64 ((szU P (tcs t) : Nat) : Int)) ∧ After W0 P EP b s ub A w w') := fun e w' ⟨h1, h2, h3⟩ => by
    refine ⟨h1, by have := h2.cnt; rw [Nat.zero_add] at this; exact this, ?_, ?_⟩
    · obtain ⟨ES', h4⟩ := h2.sv
      exact ⟨ES', h4.move h4.low rfl rfl rfl (fun p v hp hv => ⟨fun ha => hp ((HA1.out _).2 (.inl ha)), hv⟩) (Nat.le_refl _) (fun a ha => by have := hs.av a ha; have := h3.size; omega)⟩
    · exact ⟨h3.os.trans hgn.os, h3.tape.trans hgn.tape, h3.output.trans hgn.output, Nat.le_trans hgn.size h3.size, fun k hk hne => (h3.block k (by omega) (by omega) (fun e => hne (by rw [e]))).trans (hgn.block k hk (by simp))⟩
  have HW2 := HW.mono HOO.out
  have hsb := szU_bound P (tcs t)
  obtain ⟨tt, y, rfl⟩ := FoIn.iface (show FoIn W0 Bt (.node t.1 t.2 .nil) [v] from hfo)
  obtain ⟨z, ez⟩ : ∃ z, z = szU P (tcs t) := ⟨_, rfl⟩
  rw [← ez] at HW2 hsb ⊢
  have hzb : z ≤ 100000000 := by omega
  clear hok hfo hs k0 k1 hsb ez hvs hl hux hgn hB hwsz eA1 HA1 hsv1 hS HW HOO hul hubl hI
  go_enter Try.func44, Try.ntmps44
  go_wp2_with fail
  rw [← ewb]
  refine HW2.mono ?_
  rintro e w2 ⟨rfl, hc, haf⟩
  have HF : Hid (After W0 P EP b s ub A w w2) := haf
  clear haf HW2
  go_wp2_with fail
  all_goals (go_ret; exact ⟨ret_int (by omega), HF.out⟩)
end

end Go.Proofs.Ytedlcmkhbccjgaa

