/- Texts of UnV3, UnV4, UnV5, UnU1. Own work of the verifier. -/
import Derived.Test.YtaakpdakeolgeaaGreatUqay
import Derived.Deep.RegionWith
namespace Go.Proofs.YtaakpdakeolgeaaGreat
open Go Go.RowKit
set_option linter.unusedVariables false
noncomputable def szU (P : BM) (cs : List Cel) : Nat := sumN (cs.map fun c => min (putC P c).length 2001)
theorem sumN_app : ∀ a b : List Nat, sumN (a ++ b) = sumN a + sumN b
  | [], b => by simp [sumN]
  | x :: a, b => by simp [sumN, sumN_app a b]; omega
theorem szU_app (P : BM) (a b : List Cel) : szU P (a ++ b) = szU P a + szU P b := by simp [szU, sumN_app]
theorem szU_bound (P : BM) : ∀ cs : List Cel, szU P cs ≤ 2001 * cs.length
  | [] => by simp [szU, sumN]
  | c :: r => by
    have := szU_bound P r
    simp only [szU, List.map_cons, sumN, List.length_cons] at this ⊢
    omega
theorem full_var {P : BM} {x : Int} {g : Tr} (h : FullF P (.node (0, x, []) .nil .nil) g.fo) : tcs g = putC P (0, x, []) := by
  have := full_cells h
  simpa [Tr.fo, Fo.cells, tcs] using this
structure K2 (w w' : World) (x y : Nat) : Prop where
  os : w'.os = w.os
  tape : w'.tape = w.tape
  output : w'.output = w.output
  size : w.heap.size ≤ w'.heap.size
  block : ∀ k, k < w.heap.size → k ≠ x → k ≠ y → w'.heap[k]? = w.heap[k]?
theorem K2.refl (w : World) (x y : Nat) : K2 w w x y := ⟨rfl, rfl, rfl, Nat.le_refl _, fun _ _ _ _ => rfl⟩
theorem K2.trans {a b c : World} {x y : Nat} (h : K2 a b x y) (k : K2 b c x y) : K2 a c x y := ⟨k.os.trans h.os, k.tape.trans h.tape, k.output.trans h.output, Nat.le_trans h.size k.size, fun i hi h1 h2 => (k.block i (Nat.lt_of_lt_of_le hi h.size) h1 h2).trans (h.block i hi h1 h2)⟩
theorem K2.of {w w' : World} {x y : Nat} (h : w.grownBy w' (some y)) : K2 w w' x y := ⟨h.os, h.tape, h.output, h.size, fun k hk _ h2 => h.block k hk (fun e => h2 (Option.some.inj e))⟩
theorem K2.set (w : World) (x y o : Nat) (v : Value) : K2 w (w.setCell ⟨x, o, none⟩ v) x y := ⟨rfl, rfl, rfl, by simp, fun k hk h1 _ => Below.heap_setCell _ _ _ _ (by simpa using h1)⟩
theorem K2.drew (w : World) (x y : Nat) : K2 w w.drew x y := ⟨rfl, rfl, rfl, Nat.le_refl _, fun _ _ _ _ => rfl⟩
section
variable (W0 : World) (Bt : Nat) (P : BM) (EP : List (Int × Value)) (b s ub : Nat) (r : Int → Nat) (m : Nat)
structure SzU (A : Nat → Prop) (cb fb ux acc : Nat) (W : World) : Prop where
  cnt : W.cell? ⟨cb, 0, none⟩ = some (.int .i64 acc)
  free : W.frozen? ⟨cb, 0, none⟩ = false
  fn : W.cell? ⟨fb, 0, none⟩ = some (.func (.func 83) #[] #[.pointer (some ⟨ux, 0, none⟩)])
  uxc : W.cell? ⟨ux, 0, none⟩ = some (.pointer (some ⟨ub, 0, none⟩))
  sv : ∃ ES, SV W0 P EP b s ub A ES W
  ne1 : fb ≠ cb
  ne2 : ux ≠ cb
  ne3 : b ≠ cb
  ne4 : s ≠ cb
  ne5 : ub ≠ cb
  low : W0.heap.size ≤ cb
  av : A cb
theorem SzU.after {A : Nat → Prop} {cb fb ux acc : Nat} {W W' : World} (h : SzU W0 P EP b s ub A cb fb ux acc W) (ha : After W0 P EP b s ub A W W') : SzU W0 P EP b s ub A cb fb ux acc W' := by
  obtain ⟨ES, hs⟩ := h.sv
  obtain ⟨hsv, hg⟩ := ha
  exact ⟨hs.cell hg h.cnt, frz_grown h.cnt h.free hg (fun e => h.ne4 e.symm), hs.cell hg h.fn, hs.cell hg h.uxc, hsv, h.ne1, h.ne2, h.ne3, h.ne4, h.ne5, h.low, h.av⟩
theorem SzU.set {A : Nat → Prop} {cb fb ux acc : Nat} {W : World} (h : SzU W0 P EP b s ub A cb fb ux acc W) (a : Nat) : SzU W0 P EP b s ub A cb fb ux a (W.setCell ⟨cb, 0, none⟩ (.int .i64 a)) := by
  obtain ⟨ES, hs⟩ := h.sv
  refine ⟨World.cell?_setCell_same' _ _ _ (by rw [h.cnt]; rfl), by rw [World.frozen?_setCell]; exact h.free, ?_, ?_, ⟨ES, ?_⟩, h.ne1, h.ne2, h.ne3, h.ne4, h.ne5, h.low, h.av⟩
  · rw [World.cell?_setCell_other _ _ _ _ (fun e => h.ne1 (congrArg Addr.block e).symm)]; exact h.fn
  · rw [World.cell?_setCell_other _ _ _ _ (fun e => h.ne2 (congrArg Addr.block e).symm)]; exact h.uxc
  · refine hs.move (hs.low.setCell (p := ⟨cb, 0, none⟩) h.low _) (Below.heap_setCell _ _ _ _ h.ne3) (Below.heap_setCell _ _ _ _ h.ne4) (Below.heap_setCell _ _ _ _ h.ne5) (fun p v hp hv => ⟨hp, ?_⟩) (by simp) (fun a ha => by simpa using hs.av a ha)
    rw [World.cell?_setCell_other _ _ _ _ (fun e => hp (by rw [← e]; exact h.av))]
    exact hv
theorem SzU.drew {A : Nat → Prop} {cb fb ux acc : Nat} {W : World} (h : SzU W0 P EP b s ub A cb fb ux acc W) : SzU W0 P EP b s ub A cb fb ux acc W.drew := by
  obtain ⟨ES, hs⟩ := h.sv
  exact ⟨h.cnt, h.free, h.fn, h.uxc, ⟨ES, hs.grow (gdrew (.refl _ _))⟩, h.ne1, h.ne2, h.ne3, h.ne4, h.ne5, h.low, h.av⟩
def SzO (A : Nat → Prop) (cb fb ux acc : Nat) (w : World) (e : Ending) (w' : World) : Prop := e = .returned (.tuple #[]) ∧ SzU W0 P EP b s ub A cb fb ux acc w' ∧ K2 w w' cb s
set_option maxRecDepth 100000 in
set_option maxHeartbeats 1000000 in
theorem sizeVisitU_any (hI : SolveOk W0 P EP b s ub r m) (A : Nat → Prop) (cb fb ux acc : Nat) (c : Cel) (k : Fo) (v : Value) (w : World) (hok : (Fo.node c k .nil).ok) (hacc : acc ≤ 100000000) (hn : NodeIn W0 Bt c (fun kv => FoIn W0 Bt k kv) v) (hr : c.1 = 0 → r c.2.1 < m) (hs : SzU W0 P EP b s ub A cb fb ux acc w) :
    Calls Tryz.prog 64 #[v, .pointer (some ⟨cb, 0, none⟩), .pointer (some ⟨fb, 0, none⟩)] w (SzO W0 P EP b s ub A cb fb ux (acc + szU P [c]) w) := by
  by_cases h0 : c.1 = 0
  · have hv : v = .iface 63 (.int .i64 c.2.1) := by
      rcases hn with ⟨_, e⟩ | ⟨e, _⟩ | ⟨e, _⟩ | ⟨e, _⟩
      · exact e
      · omega
      · omega
      · omega
    subst hv
    obtain ⟨hce, hx⟩ := var_cell (t := (c, .nil)) (by
      have hk : k = .nil := hok.2.2.2.1 (by rw [h0]; decide)
      subst hk
      exact hok) h0
    have hd := hs.drew
    obtain ⟨ES, hsv⟩ := hd.sv
    have HS := sol2_any W0 P EP b s ub r m hI ux c.2.1 A ES w.drew (hr h0) hx hsv hd.uxc
    have HOO : Hid (∀ (e : Ending) (w' : World), (∃ g, e = .returned (.int .i64 ((min (tcs g).length 2001 : Nat) : Int)) ∧ FullF P (.node (0, c.2.1, []) .nil .nil) (Tr.fo g) ∧ After W0 P EP b s ub A w.drew w') → e = .returned (.int .i64 ((szU P [c] : Nat) : Int)) ∧ SzU W0 P EP b s ub A cb fb ux acc w' ∧ K2 w w' cb s) := fun e w' ⟨g, h1, h2, h3⟩ => by
      have h4 : tcs g = putC P c := by
        have := full_var h2
        rw [← hce] at this
        exact this
      refine ⟨?_, hd.after W0 P EP b s ub h3, (K2.drew w cb s).trans (.of h3.2)⟩
      rw [h1, h4]
      simp [szU, sumN]
    have HS2 := HS.mono HOO.out
    have hzb := szU_bound P [c]
    have hc0 := hs.cnt
    have hf0 := hs.free
    have hfn := hs.fn
    have huc := hs.uxc
    obtain ⟨x, ex⟩ : ∃ x, x = c.2.1 := ⟨_, rfl⟩
    obtain ⟨z, ez⟩ : ∃ z, z = szU P [c] := ⟨_, rfl⟩
    rw [← ez] at HS2 hzb ⊢
    rw [← ex] at HS2 ⊢
    have HWR : Hid (IntKind.i64.wrap ((acc : Int) + (z : Int)) = ((acc + z : Nat) : Int)) := by show _ = _; rw [IntKind.wrap_i64]; simp at hzb; omega
    have a1 := isVar
    clear hs hn hok hx ex ez h0 hsv hd HS HOO hr hce hI
    go_enter Tryz.func64, Tryz.ntmps64
    go_wp2_with fail
    go_region_with ((go_at_call 83; refine HS2.mono ?_; rintro e w3 ⟨rfl, hs3, hk3⟩; have hc3 := hs3.cnt; have hf3 := hs3.free; have HF3 : Hid (SzO W0 P EP b s ub A cb fb ux (acc + z) w (.returned (.tuple #[])) (w3.setCell ⟨cb, 0, none⟩ (.int .i64 ((acc + z : Nat) : Int)))) := ⟨rfl, hs3.set W0 P EP b s ub _, hk3.trans (K2.set _ _ _ _ _)⟩; clear hs3 hk3))
    all_goals go_wp2_with fail
    all_goals go_end0
    all_goals (rw [HWR.out]; exact HF3.out)
  · have hz : szU P [c] = 1 := by simp [szU, sumN, putC, h0]
    have hty : ∃ t y, v = .iface t y ∧ ∀ W, (Instr.typeAssert (.iface t y) 57 63 true).run Tryz.prog W = .ok (.tuple #[.int .i64 0, .bool false]) W := by
      rcases hn with ⟨e, _⟩ | ⟨_, e⟩ | ⟨_, e⟩ | ⟨_, b, g, vs, e, _⟩
      · exact absurd e h0
      · exact ⟨_, _, e, fun W => noVar_num W _⟩
      · exact ⟨_, _, e, fun W => noVar_atom W _⟩
      · exact ⟨_, _, e, fun W => noVar_comp W _⟩
    obtain ⟨t, y, rfl, a1⟩ := hty
    have hc0 := hs.cnt
    have hf0 := hs.free
    have HF : Hid (SzO W0 P EP b s ub A cb fb ux (acc + szU P [c]) w (.returned (.tuple #[])) (w.setCell ⟨cb, 0, none⟩ (.int .i64 ((acc + 1 : Nat) : Int)))) := ⟨rfl, by rw [hz]; exact hs.set W0 P EP b s ub _, K2.set _ _ _ _ _⟩
    clear hs hn hok hz h0 hr hI
    go_enter Tryz.func64, Tryz.ntmps64
    go_wp2_with fail
    go_end0
    exact HF.out
end
end Go.Proofs.YtaakpdakeolgeaaGreat

namespace Go.Proofs.YtaakpdakeolgeaaGreat
open Go Go.RowKit
set_option linter.unusedVariables false
section
variable (W0 : World) (Bt : Nat) (P : BM) (EP : List (Int × Value)) (b s ub : Nat) (r : Int → Nat) (m : Nat)
set_option maxRecDepth 100000 in
set_option maxHeartbeats 1000000 in
theorem sizeWalkU_any (hI : SolveOk W0 P EP b s ub r m) (A : Nat → Prop) (cb fb ux : Nat) : ∀ (N : Nat) (c : Cel) (k : Fo) (v : Value) (acc : Nat) (w : World), k.cells.length ≤ N → (Fo.node c k .nil).ok → FoIn W0 Bt (.node c k .nil) [v] → (∀ z ∈ vsF (.node c k .nil), r z < m) → SzU W0 P EP b s ub A cb fb ux acc w → acc + 2001 * (1 + k.cells.length) ≤ 100000000 →
    Calls Tryz.prog 63 #[v, .func (.func 64) #[] #[.pointer (some ⟨cb, 0, none⟩), .pointer (some ⟨fb, 0, none⟩)]] w (SzO W0 P EP b s ub A cb fb ux (acc + szU P (c :: k.cells)) w) := by
  intro N
  induction N using Nat.strongRecOn with
  | _ N ih =>
    intro c k v acc w hN hok hfo hvs hs hlen
    obtain ⟨v', vr, e, hnode, _⟩ := hfo
    obtain ⟨rfl, rfl⟩ := List.cons.inj e
    have HV := sizeVisitU_any W0 Bt P EP b s ub r m hI A cb fb ux acc c k v w hok (by omega) hnode (fun h0 => hvs _ ((vs_node c k .nil _).2 (.inl ⟨h0, rfl⟩))) hs
    have hz1 := szU_bound P [c]
    have hsplit : acc + szU P (c :: k.cells) = acc + szU P [c] + szU P k.cells := by
      have := szU_app P [c] k.cells
      simp only [List.singleton_append] at this
      omega
    rw [hsplit]
    have HIH : Hid _ := ih
    have HW : Hid (Below W0.heap.size W0 w) := by obtain ⟨ES, h⟩ := hs.sv; exact h.low
    have leaf : ∀ (t : TypeId) (x : Value), v = .iface t x → (t = 63 ∨ t = 130 ∨ t = 131) → c.1 ≠ 3 → Calls Tryz.prog 63 #[v, .func (.func 64) #[] #[.pointer (some ⟨cb, 0, none⟩), .pointer (some ⟨fb, 0, none⟩)]] w (SzO W0 P EP b s ub A cb fb ux (acc + szU P [c] + szU P k.cells) w) := fun t x hv ht h3 => by
      have hk : k = .nil := hok.2.2.2.1 h3
      subst hk hv
      have HA := fun W => argsLeaf_any t x W ht
      have hz : acc + szU P [c] + szU P Fo.nil.cells = acc + szU P [c] := rfl
      rw [hz]
      clear hok hnode hs HIH ih e hsplit hz hvs hI
      go_enter Tryz.func63, Tryz.ntmps63
      go_wp2_with fail
      refine HV.mono ?_
      rintro e w1 ⟨rfl, hst, hb⟩
      have HST : Hid (SzU W0 P EP b s ub A cb fb ux (acc + szU P [c]) w1 ∧ K2 w w1 cb s) := ⟨hst, hb⟩
      clear hst hb
      go_wp2_with fail
      refine (HA _).mono ?_
      rintro e w2 ⟨rfl, rfl⟩
      go_wp2_with fail
      refine wp_loop_rounds 1 ?_
      rw [rounds_succ]
      go_wp2_with fail
      go_end0
      exact ⟨rfl, HST.out⟩
    rcases hnode with ⟨h0, hv⟩ | ⟨h0, hv⟩ | ⟨h0, hv⟩ | ⟨h0, bc, g, vs, hv, hcomp⟩
    · exact leaf _ _ hv (.inl rfl) (by rw [h0]; decide)
    · exact leaf _ _ hv (.inr (.inl rfl)) (by rw [h0]; decide)
    · exact leaf _ _ hv (.inr (.inr rfl)) (by rw [h0]; decide)
    · subst hv
      clear leaf
      have HC : Hid (CompAt W0 Bt c.2.2 k bc g vs) := hcomp
      have hvl2 : vs.length = k.count := FoIn.count _ _ hcomp.2.2.2.2.2.2
      obtain ⟨q, eq⟩ : ∃ q, q = vs.length := ⟨_, rfl⟩
      have HE : Hid (q = vs.length ∧ vs.length = k.count) := ⟨eq, hvl2⟩
      have hq : q ≤ 100000 := by have := Fo.count_le k; omega
      have HK : Hid k.ok := hok.2.2.2.2.1
      have HVS : Hid (∀ z ∈ vsF k, r z < m) := fun z hz => hvs z ((vs_node c k .nil z).2 (.inr (.inl hz)))
      have HBB : Hid (bc < W0.heap.size ∧ W0.cell? ⟨bc, 1, none⟩ = some (.slice (some ⟨g, 0, none⟩) q q)) := ⟨World.block_lt_of_cell? _ _ hcomp.2.2.2.1, by rw [eq]; exact hcomp.2.2.2.1⟩
      have HLN : Hid (acc + 2001 * (1 + k.cells.length) ≤ 100000000 ∧ szU P [c] ≤ 2001) := ⟨hlen, by simpa using hz1⟩
      clear hcomp hok hs ih e eq hvl2 hvs hsplit hz1 hlen hI
      go_enter Tryz.func63, Tryz.ntmps63
      go_wp2_with fail
      refine HV.mono ?_
      rintro e w1 ⟨rfl, hst, hb1⟩
      have d1 : w1.cell? ⟨bc, 1, none⟩ = some (.slice (some ⟨g, 0, none⟩) q q) := by
        obtain ⟨ES, h⟩ := hst.sv
        exact (h.low.cell (p := ⟨bc, 1, none⟩) HBB.out.1).trans HBB.out.2
      have HST : Hid (SzU W0 P EP b s ub A cb fb ux (acc + szU P [c] + szU P Fo.nil.cells) w1) := hst
      have HB1 : Hid (K2 w w1 cb s) := hb1
      clear hst hb1 HV
      go_wp2_with fail
      refine (argsComp_any bc g q _ d1).mono ?_
      rintro e w2 ⟨rfl, hw2⟩
      subst hw2
      clear d1
      go_wp2_with fail
      go_loopw [12] (fun i wr => ∃ (D R : Fo) (us vs2 : List Value) (j : Nat), j ≤ q ∧ i = .int .i64 j ∧ Hid (k = D.cat R ∧ vs = us ++ vs2 ∧ us.length = j) ∧ Hid (FoIn W0 Bt R vs2) ∧ Hid (SzU W0 P EP b s ub A cb fb ux (acc + szU P [c] + szU P D.cells) wr) ∧ Hid (K2 w wr cb s)) (fun i _ => q - (intOf i).toNat)
      case atStart => exact ⟨.nil, k, [], vs, 0, Nat.zero_le _, rfl, ⟨rfl, rfl, rfl⟩, HC.out.2.2.2.2.2.2, HST, HB1⟩
      case round =>
        obtain ⟨D, R, us, vs2, j, hj, rfl, HF, HR, HS, HB⟩ := hrel
        by_cases hlt : j < q
        · obtain ⟨c', k', r', rfl⟩ : ∃ c' k' r', R = .node c' k' r' := by
            cases R with
            | nil =>
              have h1 := HF.out
              have h2 : vs2 = [] := HR.out
              have h3 := HE.out.1
              rw [h1.2.1, h2, List.append_nil] at h3
              omega
            | node c' k' r' => exact ⟨c', k', r', rfl⟩
          obtain ⟨v, vr, rfl, hnode, hrest⟩ := HR.out
          have hok2 := (Fo.ok_cat D (.node c' k' r')).1 (HF.out.1 ▸ HK.out)
          have hl2 : D.cells.length + (k'.cells.length + r'.cells.length + 1) = k.cells.length := by
            rw [HF.out.1, Fo.cells_cat]; simp [Fo.cells]
          have hat : W0.cell? ⟨g, j, none⟩ = some v := by
            rw [HC.out.2.2.2.2.2.1 j (by rw [← HE.out.1]; exact hlt), HF.out.2.1]
            simp [List.getD, HF.out.2.2]
          have c5 : wr.cell? ⟨g, j, none⟩ = some v := by
            obtain ⟨ES, h⟩ := HS.out.sv
            exact (h.low.cell (World.block_lt_of_cell? _ _ hat)).trans hat
          have hvk : ∀ z ∈ vsF (.node c' k' .nil), r z < m := fun z hz => HVS.out z (by
            rw [HF.out.1]
            obtain ⟨cz, h1, h2, h3⟩ := vs_cell _ z hz
            rw [← h3]
            refine cell_vs _ cz ?_ h2
            rw [Fo.cells_cat]
            simp [Fo.cells] at h1 ⊢
            rcases h1 with h1 | h1
            · exact .inr (.inl h1)
            · exact .inr (.inr (.inl h1)))
          have hbD := szU_bound P D.cells
          have HWK := HIH.out k'.cells.length (by omega) c' k' v (acc + szU P [c] + szU P D.cells) wr (Nat.le_refl _) ⟨hok2.2.1, hok2.2.2.1, hok2.2.2.2.1, hok2.2.2.2.2.1, hok2.2.2.2.2.2.1, trivial⟩ ⟨v, [], rfl, hnode, rfl⟩ hvk HS.out (by have := HLN.out; omega)
          obtain ⟨vt, vx, rfl⟩ := hnode.iface
          have HRR : Hid (FoIn W0 Bt r' vr) := hrest
          clear hok2 hl2 hat hnode hrest HIH hvk hbD
          go_wp2_with fail
          refine HWK.mono ?_
          rintro e w3 ⟨rfl, hst3, hb3⟩
          have HN : Hid (k = (D.cat (.node c' k' .nil)).cat r' ∧ vs = (us ++ [.iface vt vx]) ++ vr ∧ (us ++ [Value.iface vt vx]).length = j + 1) := ⟨by rw [Fo.cat_assoc]; exact HF.out.1, by rw [HF.out.2.1]; simp, by simp [HF.out.2.2]⟩
          have HST3 : Hid (SzU W0 P EP b s ub A cb fb ux (acc + szU P [c] + szU P (D.cat (.node c' k' .nil)).cells) w3) := by
            have e : acc + szU P [c] + szU P D.cells + szU P (c' :: k'.cells) = acc + szU P [c] + szU P (D.cat (.node c' k' .nil)).cells := by
              rw [Fo.cells_cat, szU_app]
              have : (Fo.node c' k' .nil).cells = c' :: k'.cells := by simp [Fo.cells]
              rw [this]
              omega
            rw [← e]; exact hst3
          have HB3 : Hid (K2 w w3 cb s) := HB.out.trans hb3
          clear hst3 hb3 HWK
          go_wp2_with fail
          go_roundw
          case rel => exact ⟨D.cat (.node c' k' .nil), r', us ++ [.iface vt vx], vr, j + 1, by omega, by go_num, HN, HRR, HST3, HB3⟩
          case measure => simp [intOf]; omega
        · obtain rfl : j = q := by omega
          obtain rfl : R = .nil := by
            have h1 := FoIn.count _ _ HR.out
            have h2 := HE.out
            rw [HF.out.2.1, List.length_append] at h2
            have h3 := HF.out.2.2
            cases R with
            | nil => rfl
            | node a b d => simp [Fo.count] at h1; omega
          have HF' : Hid (D = k) := by have := HF.out.1; rw [Fo.cat_nil] at this; exact this.symm
          go_wp2_with fail
          go_end0
          refine ⟨rfl, ?_, HB.out⟩
          have h1 := HS.out
          rwa [HF'.out] at h1
set_option maxRecDepth 100000 in
set_option maxHeartbeats 1000000 in
theorem sizeWithU_any (hI : SolveOk W0 P EP b s ub r m) (A : Nat → Prop) (ux : Nat) (t : Tr) (v : Value) (ES : List (Int × Value)) (w : World) (hok : t.fo.ok) (hfo : FoIn W0 Bt t.fo [v]) (hvs : ∀ z ∈ vsT t, r z < m) (hl : (tcs t).length ≤ 2000) (hs : SV W0 P EP b s ub A ES w) (hux : w.cell? ⟨ux, 0, none⟩ = some (.pointer (some ⟨ub, 0, none⟩))) :
    Calls Tryz.prog 31 #[v, .func (.func 83) #[] #[.pointer (some ⟨ux, 0, none⟩)]] w fun e w' => e = .returned (.int .i64 ((min (szU P (tcs t)) 2001 : Nat) : Int)) ∧ After W0 P EP b s ub A w w' := by
  obtain ⟨wb, ewb⟩ : ∃ wb, wb = (w.alloc (.cells #[.func (.func 83) #[] #[.pointer (some ⟨ux, 0, none⟩)]] 65)).alloc (.cells #[.int .i64 0] 3) := ⟨_, rfl⟩
  have hgn : w.grownBy wb none := by rw [ewb]; exact (World.grownBy_alloc w _ none).andThen (World.grownBy_alloc _ _ none) (fun j hj => .inr hj)
  have hB : Below w.heap.size w wb := ⟨hgn.os, hgn.tape, hgn.output, hgn.size, fun k hk => hgn.block k hk (by simp)⟩
  have k0 : wb.heap[w.heap.size]? = some (.cells #[.func (.func 83) #[] #[.pointer (some ⟨ux, 0, none⟩)]] 65) := by rw [ewb]; exact (Below.heap_alloc _ _ _ (by simp)).trans (heap_alloc_new _ _)
  have k1 : wb.heap[w.heap.size + 1]? = some (.cells #[.int .i64 0] 3) := by
    have := heap_alloc_new (w.alloc (.cells #[.func (.func 83) #[] #[.pointer (some ⟨ux, 0, none⟩)]] 65)) (.cells #[.int .i64 0] 3)
    rw [World.size_alloc] at this
    rw [ewb]; exact this
  have hwsz : wb.heap.size = w.heap.size + 2 := by rw [ewb]; simp
  obtain ⟨A1, eA1⟩ : ∃ A1 : Nat → Prop, A1 = fun a => A a ∨ a = w.heap.size + 1 := ⟨_, rfl⟩
  have HA1 : Hid (∀ a, A1 a ↔ A a ∨ a = w.heap.size + 1) := fun a => by rw [eA1]
  have hsv1 : SV W0 P EP b s ub A1 ES wb := by
    refine hs.move (Below.on hs.low hB) (hB.block _ hs.bnd.lt) (hB.block _ hs.sol.lt) (hB.block _ (World.block_lt_of_cell? _ _ hs.ubc)) (fun p v hp hv => ?_) hB.size (fun a ha => ?_)
    · have hlt := World.block_lt_of_cell? _ _ hv
      refine ⟨fun ha => ?_, (hB.cell hlt).trans hv⟩
      rcases (HA1.out _).1 ha with h | h
      · exact hp h
      · omega
    · rcases (HA1.out _).1 ha with h | h
      · have := hs.av a h; omega
      · have := hs.low.size; omega
  have hul := World.block_lt_of_cell? _ _ hux
  have hubl := World.block_lt_of_cell? _ _ hs.ubc
  simp only at hul hubl
  have hS : SzU W0 P EP b s ub A1 (w.heap.size + 1) w.heap.size ux 0 wb := ⟨cell_of_row _ _ 0 _ _ _ k1, frozen_of_row _ _ 0 _ _ k1, cell_of_row _ _ 0 _ _ _ k0, (hB.cell hul).trans hux, ⟨ES, hsv1⟩, by omega, by omega, by have := hs.bnd.lt; omega, by have := hs.sol.lt; omega, by omega, by have := hs.low.size; omega, (HA1.out _).2 (.inr rfl)⟩
  have HW := sizeWalkU_any W0 Bt P EP b s ub r m hI A1 (w.heap.size + 1) w.heap.size ux t.2.cells.length t.1 t.2 v 0 wb (Nat.le_refl _) hok hfo hvs hS (by simp only [tcs, List.length_cons] at hl; omega)
  have HOO : Hid (∀ e w', SzO W0 P EP b s ub A1 (w.heap.size + 1) w.heap.size ux (0 + szU P (t.1 :: t.2.cells)) wb e w' → e = .returned (.tuple #[]) ∧ w'.cell? ⟨w.heap.size + 1, 0, none⟩ = some (.int .i64 ((szU P (tcs t) : Nat) : Int)) ∧ After W0 P EP b s ub A w w') := fun e w' ⟨h1, h2, h3⟩ => by
    refine ⟨h1, by have := h2.cnt; rw [Nat.zero_add] at this; exact this, ?_, ?_⟩
    · obtain ⟨ES', h4⟩ := h2.sv
      exact ⟨ES', h4.move h4.low rfl rfl rfl (fun p v hp hv => ⟨fun ha => hp ((HA1.out _).2 (.inl ha)), hv⟩) (Nat.le_refl _) (fun a ha => by have := hs.av a ha; have := h3.size; omega)⟩
    · exact ⟨h3.os.trans hgn.os, h3.tape.trans hgn.tape, h3.output.trans hgn.output, Nat.le_trans hgn.size h3.size, fun k hk hne => (h3.block k (by omega) (by omega) (fun e => hne (by rw [e]))).trans (hgn.block k hk (by simp))⟩
  have HW2 := HW.mono HOO.out
  have hsb := szU_bound P (tcs t)
  obtain ⟨tt, y, rfl⟩ := FoIn.iface (show FoIn W0 Bt (.node t.1 t.2 .nil) [v] from hfo)
  obtain ⟨z, ez⟩ : ∃ z, z = szU P (tcs t) := ⟨_, rfl⟩
  rw [← ez] at HW2 hsb ⊢
  have hzb : z ≤ 100000000 := by omega
  clear hok hfo hs k0 k1 hsb ez hvs hl hux hgn hB hwsz eA1 HA1 hsv1 hS HW HOO hul hubl hI
  go_enter Tryz.func31, Tryz.ntmps31
  go_wp2_with fail
  rw [← ewb]
  refine HW2.mono ?_
  rintro e w2 ⟨rfl, hc, haf⟩
  have HF : Hid (After W0 P EP b s ub A w w2) := haf
  clear haf HW2
  go_wp2_with fail
  all_goals (go_ret; exact ⟨ret_int (by omega), HF.out⟩)
end
end Go.Proofs.YtaakpdakeolgeaaGreat

namespace Go.Proofs.YtaakpdakeolgeaaGreat
open Go Go.RowKit
set_option linter.unusedVariables false
theorem zeroSol (w : World) : (zeroValue 107).run Tryz.prog w = .ok (.agg #[.nilIface, .int .i64 0]) w := by kernel_rfl
theorem grown_of_below {w w' : World} {s : Nat} (h : Below w.heap.size w w') : w.grownBy w' (some s) := ⟨h.os, h.tape, h.output, h.size, fun k hk _ => h.block k hk⟩
theorem SV.fresh {W0 : World} {P : BM} {EP : List (Int × Value)} {b s ub : Nat} {A : Nat → Prop} {ES : List (Int × Value)} {W W' : World} (h : SV W0 P EP b s ub A ES W) (hB : Below W.heap.size W W') : SV W0 P EP b s ub A ES W' :=
  h.grow ⟨hB.os, hB.tape, hB.output, hB.size, fun k hk _ => hB.block k hk⟩
theorem FoA.fresh {A : Nat → Prop} {W W' : World} {F : Fo} {vs : List Value} (h : FoA A W F vs) (hB : Below W.heap.size W W') : FoA A W' F vs :=
  h.move (fun p v hp hv => ⟨hp, (hB.cell (World.block_lt_of_cell? _ _ hv)).trans hv⟩) hB.size
section
variable (W0 : World) (Bt : Nat) (P : BM) (EP : List (Int × Value)) (b s ub : Nat) (r : Int → Nat)
set_option maxRecDepth 100000 in
set_option maxHeartbeats 2000000 in
theorem solve_next (hwf : WfU P) (hbm : BMIn W0 Bt P EP) (hPok : ∀ x u, P x = some u → u.fo.ok ∧ (tcs u).length ≤ 2000) (hac : Acyc P r) (m : Nat) (hI : SolveOk W0 P EP b s ub r m) : SolveOk W0 P EP b s ub r (m + 1) := by
  intro x A ES w hrx hx hs
  obtain ⟨wb, ewb⟩ : ∃ wb, wb = (w.alloc (.cells #[.pointer (some ⟨ub, 0, none⟩)] 54)).alloc (.cells #[.nilIface, .int .i64 0] 107) := ⟨_, rfl⟩
  have hB : Below w.heap.size w wb := by rw [ewb]; exact ((Below.refl _ _).alloc (Nat.le_refl _) _).alloc (by simp) _
  have k0 : wb.heap[w.heap.size]? = some (.cells #[.pointer (some ⟨ub, 0, none⟩)] 54) := by rw [ewb]; exact (Below.heap_alloc _ _ _ (by simp)).trans (heap_alloc_new _ _)
  have k1 : wb.heap[w.heap.size + 1]? = some (.cells #[.nilIface, .int .i64 0] 107) := by
    have := heap_alloc_new (w.alloc (.cells #[.pointer (some ⟨ub, 0, none⟩)] 54)) (.cells #[.nilIface, .int .i64 0] 107)
    rw [World.size_alloc] at this
    rw [ewb]; exact this
  have hsb := hs.fresh hB
  have u0 : wb.cell? ⟨w.heap.size, 0, none⟩ = some (.pointer (some ⟨ub, 0, none⟩)) := cell_of_row _ _ 0 _ _ _ k0
  have r0 : wb.cell? ⟨w.heap.size + 1, 0, none⟩ = some .nilIface := cell_of_row _ _ 0 _ _ _ k1
  have r1 : wb.cell? ⟨w.heap.size + 1, 1, none⟩ = some (.int .i64 0) := cell_of_row _ _ 1 _ _ _ k1
  have q0 : wb.frozen? ⟨w.heap.size + 1, 0, none⟩ = false := frozen_of_row _ _ 0 _ _ k1
  have q1 : wb.frozen? ⟨w.heap.size + 1, 1, none⟩ = false := frozen_of_row _ _ 1 _ _ k1
  have cb := hsb.ubc
  have cs := hsb.sbc
  have hlb := hsb.bnd.look (t := 88) Tryz.underlying88 (zeroTerm wb) x hx.1 hx.2
  cases hP : P x with
  | none =>
    rw [hbm.2 _ hP] at hlb
    simp only [Option.isSome_none] at hlb
    have HFN : Hid (∀ w', Below w.heap.size w w' → SolOut W0 P EP b s ub A x w (.returned (.agg #[.iface 63 (.int .i64 x), .int .i64 1])) w') := fun w' hB' => ⟨((0, x, []), .nil), _, _, rfl, .keep (fun _ => hP) .nil .nil, ⟨_, [], rfl, .inl ⟨rfl, rfl⟩, rfl⟩, ⟨⟨ES, hs.fresh hB'⟩, grown_of_below hB'⟩⟩
    have HBB : Hid (∀ v1 v2, Below w.heap.size w ((wb.setCell ⟨w.heap.size + 1, 0, none⟩ v1).setCell ⟨w.heap.size + 1, 1, none⟩ v2)) := fun v1 v2 => (hB.setCell (p := ⟨w.heap.size + 1, 0, none⟩) (by simp) _).setCell (p := ⟨w.heap.size + 1, 1, none⟩) (by simp) _
    clear hI hrx hx hs hB k0 k1 hsb hP hwf hbm hPok hac u0 r0 r1 q0 q1 cs
    subst ewb
    go_enter Tryz.func62, Tryz.ntmps62
    go_wp2_with fail
    refine bodyPost_ret (v := .agg #[.iface 63 (.int .i64 x), .int .i64 1]) (by simp [results, Tryz.results62, go_sem]) rfl ?_
    exact HFN.out _ (((Below.refl _ _).alloc (Nat.le_refl _) _).alloc (by simp) _)
  | some u =>
    obtain ⟨vu, hlu, hfu⟩ := hbm.1 _ _ hP
    obtain ⟨tu, yu, rfl⟩ := FoIn.iface (show FoIn W0 Bt (.node u.1 u.2 .nil) [vu] from hfu)
    rw [hlu] at hlb
    simp only [Option.isSome_some] at hlb
    have hls := hsb.sol.look (t := 90) Tryz.underlying90 (zeroSol wb) x hx.1 hx.2
    cases hE : look ES x with
    | some sv =>
      obtain ⟨u', g, t, y, hP', hfull, rfl, hfa⟩ := hs.ent x sv hE
      obtain rfl := Option.some.inj (hP.symm.trans hP')
      rw [hE] at hls
      simp only [Option.isSome_some] at hls
      have HFN : Hid (∀ w', Below w.heap.size w w' → SolOut W0 P EP b s ub A x w (.returned (solV (.iface t y) g)) w') := fun w' hB' => ⟨g, t, y, rfl, .put rfl hP hfull .nil, hfa.fresh hB', ⟨⟨ES, hs.fresh hB'⟩, grown_of_below hB'⟩⟩
      unfold solV at HFN hls
      obtain ⟨z, ez⟩ : ∃ z, z = ((min (tcs g).length 2001 : Nat) : Int) := ⟨_, rfl⟩
      rw [← ez] at HFN hls
      clear hI hrx hx hs hB k0 k1 hsb hP hP' hwf hbm hPok hac u0 r0 r1 q0 q1 hE hfull hfa hfu hlu ez
      subst ewb
      go_enter Tryz.func62, Tryz.ntmps62
      go_wp2_with fail
      refine bodyPost_ret (v := .agg #[.iface t y, .int .i64 z]) (by simp [results, Tryz.results62, go_sem]) rfl ?_
      exact HFN.out _ ((((Below.refl _ _).alloc (Nat.le_refl _) _).alloc (by simp) _).alloc (by simp; omega) _)
    | none =>
      rw [hE] at hls
      simp only [Option.isSome_none] at hls
      obtain ⟨w3, e3⟩ : ∃ w3, w3 = wb.alloc (.cells #[.nilIface, .int .i64 0] 107) := ⟨_, rfl⟩
      have hB3 : Below wb.heap.size wb w3 := by rw [e3]; exact (Below.refl _ _).alloc (Nat.le_refl _) _
      obtain ⟨A1, eA1⟩ : ∃ A1 : Nat → Prop, A1 = fun a => A a ∨ a = w.heap.size + 1 := ⟨_, rfl⟩
      have HA1 : Hid (∀ a, A1 a ↔ A a ∨ a = w.heap.size + 1) := fun a => by rw [eA1]
      have HAV : Hid (∀ a, A a → W0.heap.size ≤ a ∧ a < w.heap.size) := hs.av
      have hBw : Below w.heap.size w w3 := Below.on hB hB3
      have hs3 : SV W0 P EP b s ub A1 ES w3 := by
        refine hs.move (Below.on hs.low hBw) (hBw.block _ hs.bnd.lt) (hBw.block _ hs.sol.lt) (hBw.block _ (World.block_lt_of_cell? _ _ hs.ubc)) (fun p v hp hv => ?_) hBw.size (fun a ha => ?_)
        · have hlt := World.block_lt_of_cell? _ _ hv
          refine ⟨fun ha => ?_, (hBw.cell hlt).trans hv⟩
          rcases (HA1.out _).1 ha with h | h
          · exact hp h
          · omega
        · rcases (HA1.out _).1 ha with h | h
          · have := hs.av a h; have := hBw.size; omega
          · have := hs.low.size
            have h9 := World.block_lt_of_cell? _ _ ((hB3.cell (World.block_lt_of_cell? _ _ r0)).trans r0)
            simp at h9
            omega
      obtain ⟨ou, lu⟩ := hPok _ _ hP
      have hvs : ∀ z ∈ vsT u, r z < m := fun z hz => by have := hac _ _ hP z hz; omega
      have u3 : w3.cell? ⟨w.heap.size, 0, none⟩ = some (.pointer (some ⟨ub, 0, none⟩)) := (hB3.cell (World.block_lt_of_cell? _ _ u0)).trans u0
      have HRC := replaceF_any W0 Bt P EP b s ub r m hI w.heap.size u.2.cells.length u.1 u.2 (.iface tu yu) A1 ES w3 (Nat.le_refl _) ou hfu hvs hs3 u3 (by simp only [tcs, List.length_cons] at lu; omega)
      have HSZ : Hid (∀ ES4 w4, SV W0 P EP b s ub A1 ES4 w4 → w4.cell? ⟨w.heap.size, 0, none⟩ = some (.pointer (some ⟨ub, 0, none⟩)) → Calls Tryz.prog 31 #[.iface tu yu, .func (.func 83) #[] #[.pointer (some ⟨w.heap.size, 0, none⟩)]] w4 fun e w' => e = .returned (.int .i64 ((min (szU P (tcs u)) 2001 : Nat) : Int)) ∧ After W0 P EP b s ub A1 w4 w') := fun ES4 w4 h4 hu4 => sizeWithU_any W0 Bt P EP b s ub r m hI A1 w.heap.size u (.iface tu yu) ES4 w4 ou hfu hvs lu h4 hu4
      have HCT : Hid (∀ g : Tr, FullF P u.fo g.fo → min (szU P (tcs u)) 2001 = min (tcs g).length 2001) := fun g hg => by
        have h1 := hwf.count 2001 u ou
        rw [fullC_eq hg, tcs_fo] at h1
        exact h1.symm
      have HUX3 : Hid (w3.cell? ⟨w.heap.size, 0, none⟩ = some (.pointer (some ⟨ub, 0, none⟩)) ∧ w3.cell? ⟨w.heap.size + 1, 0, none⟩ = some .nilIface ∧ w3.cell? ⟨w.heap.size + 1, 1, none⟩ = some (.int .i64 0) ∧ w3.frozen? ⟨w.heap.size + 1, 0, none⟩ = false ∧ w3.frozen? ⟨w.heap.size + 1, 1, none⟩ = false) := ⟨u3, (hB3.cell (World.block_lt_of_cell? _ _ r0)).trans r0, (hB3.cell (World.block_lt_of_cell? _ _ r1)).trans r1, (hB3.frozen (p := ⟨w.heap.size + 1, 0, none⟩) (World.block_lt_of_cell? _ _ r0)).trans q0, (hB3.frozen (p := ⟨w.heap.size + 1, 1, none⟩) (World.block_lt_of_cell? _ _ r1)).trans q1⟩
      have HS3 : Hid (SV W0 P EP b s ub A1 ES w3) := hs3
      have HBW : Hid (Below w.heap.size w w3) := Below.on hB hB3
      have HX : Hid ((0 ≤ x ∧ x ≤ 1000000) ∧ P x = some u ∧ x ∈ EP.map Prod.fst) := ⟨hx, hP, by
        cases hq : decide (x ∈ EP.map Prod.fst) with
        | true => exact of_decide_eq_true hq
        | false => rw [(look_none EP x).2 (of_decide_eq_false hq)] at hlu; cases hlu⟩
      have HSL : Hid (s < w.heap.size ∧ ub < w.heap.size ∧ b < w.heap.size ∧ W0.heap.size ≤ w.heap.size) := ⟨hs.sol.lt, World.block_lt_of_cell? _ _ hs.ubc, hs.bnd.lt, hs.low.size⟩
      clear hI hrx hx hs hB k0 k1 hsb hP hwf hbm hPok hac u0 r0 r1 q0 q1 hE hfu hlu hB3 hs3 ou lu hvs u3 eA1 hBw
      subst ewb
      rw [e3] at HRC
      go_enter Tryz.func62, Tryz.ntmps62
      go_wp2_with fail
      refine HRC.mono ?_
      rw [← e3]
      rintro e w4 ⟨g, t, y, rfl, hfull, hfa4, ⟨ES4, hsv4⟩, hg4⟩
      have hu4 := HS3.out.cell hg4 HUX3.out.1
      have hsn : w.heap.size + 1 ≠ s := by have := HSL.out.1; omega
      have a0 := HS3.out.cell hg4 HUX3.out.2.1
      have a1 := HS3.out.cell hg4 HUX3.out.2.2.1
      have b0 := frz_grown HUX3.out.2.1 HUX3.out.2.2.2.1 hg4 hsn
      have b1 := frz_grown HUX3.out.2.2.1 HUX3.out.2.2.2.2 hg4 hsn
      have HSZ4 := HSZ.out ES4 w4 hsv4 hu4
      have HS4 : Hid (SV W0 P EP b s ub A1 ES4 w4) := hsv4
      have HGE : Hid (FullF P u.fo g.fo) := hfull
      rw [HCT.out g hfull] at HSZ4
      have HFA : Hid (FoA A1 w4 g.fo [.iface t y]) := hfa4
      have HG4 : Hid (w3.grownBy w4 (some s)) := hg4
      have HAB : Hid ((w4.cell? ⟨w.heap.size + 1, 0, none⟩ = some .nilIface ∧ w4.cell? ⟨w.heap.size + 1, 1, none⟩ = some (.int .i64 0)) ∧ w4.frozen? ⟨w.heap.size + 1, 0, none⟩ = false ∧ w4.frozen? ⟨w.heap.size + 1, 1, none⟩ = false) := ⟨⟨a0, a1⟩, b0, b1⟩
      have HU4 : Hid (w4.cell? ⟨w.heap.size, 0, none⟩ = some (.pointer (some ⟨ub, 0, none⟩))) := hu4
      obtain ⟨z, ez⟩ : ∃ z, z = ((min (tcs g).length 2001 : Nat) : Int) := ⟨_, rfl⟩
      have HZ : Hid (z = ((min (tcs g).length 2001 : Nat) : Int)) := ez
      rw [← ez] at HSZ4
      clear hfull hfa4 hsv4 hg4 hu4 a0 a1 b0 b1 HRC HSZ ez
      go_wp2_with fail
      refine HSZ4.mono ?_
      rintro e w5 ⟨rfl, ⟨ES5, hsv5⟩, hg5⟩
      have hu5 := HS4.out.cell hg5 HU4.out
      have a0 := HS4.out.cell hg5 HAB.out.1.1
      have a1 := HS4.out.cell hg5 HAB.out.1.2
      have b0 := frz_grown HAB.out.1.1 HAB.out.2.1 hg5 hsn
      have b1 := frz_grown HAB.out.1.2 HAB.out.2.2 hg5 hsn
      obtain ⟨w6, e6⟩ : ∃ w6, w6 = (w5.alloc (.cells #[.iface t y, .int .i64 z] 107)).drew := ⟨_, rfl⟩
      have hB6 : Below w5.heap.size w5 w6 := by rw [e6]; exact ((Below.refl _ _).alloc (Nat.le_refl _) _).drew
      have h6n : w6.heap[w5.heap.size]? = some (.cells #[.iface t y, .int .i64 z] 107) := by rw [e6]; exact heap_alloc_new w5 _
      have hsv6 := hsv5.fresh hB6
      have hlen5 : ES5.length ≤ 20000 := by have := hsv5.cost; omega
      obtain ⟨w7, hput, hm7, hg7⟩ := hsv6.sol.put (t := 90) Tryz.underlying90 (by omega) x HX.out.1.1 HX.out.1.2 (.agg #[.iface t y, .int .i64 z])
      have hsw : w5.heap.size ≠ s := by have := hsv5.sol.lt; omega
      have v0 : w6.cell? ⟨w.heap.size, 0, none⟩ = some (.pointer (some ⟨ub, 0, none⟩)) := (hB6.cell (World.block_lt_of_cell? _ _ hu5)).trans hu5
      have v1 := hsv6.sbc
      have v2 : w6.cell? ⟨w5.heap.size, 0, none⟩ = some (.iface t y) := cell_of_row _ _ 0 _ _ _ h6n
      have v3 : w6.cell? ⟨w5.heap.size, 1, none⟩ = some (.int .i64 z) := cell_of_row _ _ 1 _ _ _ h6n
      have x0 := hsv6.cell hg7 v0
      have x1 := hsv6.cell hg7 v1
      have x2 := hsv6.cell hg7 v2
      have x3 := hsv6.cell hg7 v3
      have y0 := hsv6.cell hg7 ((hB6.cell (World.block_lt_of_cell? _ _ a0)).trans a0)
      have y1 := hsv6.cell hg7 ((hB6.cell (World.block_lt_of_cell? _ _ a1)).trans a1)
      have z0 := frz_grown ((hB6.cell (World.block_lt_of_cell? _ _ a0)).trans a0) ((hB6.frozen (p := ⟨w.heap.size + 1, 0, none⟩) (World.block_lt_of_cell? _ _ a0)).trans b0) hg7 hsn
      have z1 := frz_grown ((hB6.cell (World.block_lt_of_cell? _ _ a1)).trans a1) ((hB6.frozen (p := ⟨w.heap.size + 1, 1, none⟩) (World.block_lt_of_cell? _ _ a1)).trans b1) hg7 hsn
      have HFIN : Hid (SolOut W0 P EP b s ub A x w (.returned (.agg #[.iface t y, .int .i64 z])) ((w7.setCell ⟨w.heap.size + 1, 0, none⟩ (.iface t y)).setCell ⟨w.heap.size + 1, 1, none⟩ (.int .i64 z))) := by
        have hgA : ∀ p v, ¬ A1 p.block → w7.cell? p = some v → ¬ A p.block ∧ ((w7.setCell ⟨w.heap.size + 1, 0, none⟩ (.iface t y)).setCell ⟨w.heap.size + 1, 1, none⟩ (.int .i64 z)).cell? p = some v := fun p v hp hv => by
          have hne : p.block ≠ w.heap.size + 1 := fun e => hp ((HA1.out _).2 (.inr e))
          refine ⟨fun ha => hp ((HA1.out _).2 (.inl ha)), ?_⟩
          rw [World.cell?_setCell_other _ _ _ _ (fun e => hne (by rw [← e])), World.cell?_setCell_other _ _ _ _ (fun e => hne (by rw [← e]))]
          exact hv
        have hfa5 : FoA A1 w5 g.fo [.iface t y] := HFA.out.move (fun p v hp hv => ⟨hp, HS4.out.cell hg5 hv⟩) hg5.size
        have hfa7 : FoA A1 w7 g.fo [.iface t y] := (hfa5.fresh hB6).move (fun p v hp hv => ⟨hp, hsv6.cell hg7 hv⟩) hg7.size
        have hblk : ∀ k, k ≠ w.heap.size + 1 → ((w7.setCell ⟨w.heap.size + 1, 0, none⟩ (.iface t y)).setCell ⟨w.heap.size + 1, 1, none⟩ (.int .i64 z)).heap[k]? = w7.heap[k]? := fun k hk => (Below.heap_setCell _ _ _ _ (by simpa using hk)).trans (Below.heap_setCell _ _ _ _ (by simpa using hk))
        have hsv7 : SV W0 P EP b s ub A1 (putE ES5 x (.agg #[.iface t y, .int .i64 z])) w7 := by
          refine ⟨hsv6.low.grown hg7 hsv6.low.size (fun k e => by cases e; exact hsv6.hs), hsv6.cell hg7 hsv6.ubc, hsv6.cell hg7 hsv6.sbc, hsv6.bnd.of_block (hg7.block b hsv6.bnd.lt (fun e => hsv6.ne (Option.some.inj e))), hm7.tight, fun x' sv' hx' => ?_, fun a ha => ?_, ?_, hsv6.hs, hsv6.ne⟩
          · rw [look_putE] at hx'
            split at hx'
            · rename_i e
              subst e
              cases hx'
              exact ⟨u, g, t, y, HX.out.2.1, HGE.out, by unfold solV; rw [HZ.out], hfa7⟩
            · obtain ⟨u', g', t', y', h1, h2, h3, h4⟩ := hsv6.ent x' sv' hx'
              exact ⟨u', g', t', y', h1, h2, h3, h4.move (fun p v hp hv => ⟨hp, hsv6.cell hg7 hv⟩) hg7.size⟩
          · have := hsv6.av a ha
            have := hg7.size
            omega
          · have h1 := putE_len ES5 x (Value.agg #[.iface t y, .int .i64 z])
            have h2 := hsv6.cost
            cases hq : look ES5 x with
            | none =>
              have h3 := uns_put (v := Value.agg #[.iface t y, .int .i64 z]) HX.out.2.2 hq
              rw [hq] at h1
              simp at h1
              omega
            | some y9 =>
              rw [hq] at h1
              simp only [Option.isSome_some, if_true] at h1
              have h3 : uns (EP.map Prod.fst) (putE ES5 x (Value.agg #[.iface t y, .int .i64 z])) ≤ uns (EP.map Prod.fst) ES5 := by
                unfold uns
                have e : (EP.map Prod.fst).filter (fun x_1 => (look (putE ES5 x (Value.agg #[.iface t y, .int .i64 z])) x_1).isNone) = (EP.map Prod.fst).filter (fun x_1 => (look ES5 x_1).isNone) := List.filter_congr fun x' _ => by
                  rw [look_putE]
                  by_cases e : x' = x
                  · subst e; simp [hq]
                  · simp [e]
                rw [e]
                exact Nat.le_refl _
              omega
        refine ⟨g, t, y, by unfold solV; rw [HZ.out], .put rfl HX.out.2.1 HGE.out .nil, hfa7.move hgA (by simp), ⟨⟨_, hsv7.move ?_ (hblk b ?_) (hblk s (fun e => hsn e.symm)) (hblk ub ?_) hgA (by simp) (fun a ha => ?_)⟩, ?_⟩⟩
        · exact (hsv7.low.setCell (p := ⟨w.heap.size + 1, 0, none⟩) (by have := HSL.out.2.2.2; show W0.heap.size ≤ w.heap.size + 1; omega) _).setCell (p := ⟨w.heap.size + 1, 1, none⟩) (by have := HSL.out.2.2.2; show W0.heap.size ≤ w.heap.size + 1; omega) _
        · have := HSL.out.2.2.1; omega
        · have := HSL.out.2.1; omega
        · have := HAV.out a ha
          have h9 := HBW.out.size
          have h10 := HG4.out.size
          have h11 := hg5.size
          have h12 := hB6.size
          have h13 := hg7.size
          simp
          omega
        · have h1 := ((grown_of_below (s := s) HBW.out).andThen HG4.out (fun j hj => .inr hj)).andThen (hg5.andThen ((grown_of_below (s := s) hB6).andThen hg7 (fun j hj => .inr hj)) (fun j hj => .inr hj)) (fun j hj => .inr hj)
          exact ⟨h1.os, h1.tape, h1.output, by simpa using h1.size, fun k hk hne => (hblk k (by omega)).trans (h1.block k hk hne)⟩
      clear hsv5 hg5 hu5 a0 a1 b0 b1 hB6 h6n hsv6 hlen5 hm7 hg7 hsw HSZ4 HS4 HFA HG4 HAB HU4 HUX3 HS3 HGE HCT
      subst e6
      go_wp2_with fail
      go_region_held3 (fun W => W.cell? ⟨w.heap.size, 0, none⟩ = some (.pointer (some ⟨ub, 0, none⟩)) ∧ W.cell? ⟨ub, 1, none⟩ = some (.map (some s)) ∧ W.cell? ⟨w5.heap.size, 0, none⟩ = some (.iface t y) ∧ W.cell? ⟨w5.heap.size, 1, none⟩ = some (.int .i64 z)) (first | exact ⟨v0, v1, v2, v3⟩ | exact ⟨x0, x1, x2, x3⟩ | go_keep) (fail)
      all_goals
        go_wp2_with fail
        refine bodyPost_ret (v := .agg #[.iface t y, .int .i64 z]) (by simp [results, Tryz.results62, go_sem, y0, y1]) rfl ?_
        exact HFIN.out
end
end Go.Proofs.YtaakpdakeolgeaaGreat

namespace Go.Proofs.YtaakpdakeolgeaaGreat
open Go Go.RowKit
set_option linter.unusedVariables false
theorem solve_any (W0 : World) (Bt : Nat) (P : BM) (EP : List (Int × Value)) (b s ub : Nat) (r : Int → Nat) (hwf : WfU P) (hbm : BMIn W0 Bt P EP) (hPok : ∀ x u, P x = some u → u.fo.ok ∧ (tcs u).length ≤ 2000) (hac : Acyc P r) : ∀ m, SolveOk W0 P EP b s ub r m
  | 0 => fun x A ES w h => absurd h (Nat.not_lt_zero _)
  | m + 1 => solve_next W0 Bt P EP b s ub r hwf hbm hPok hac m (solve_any W0 Bt P EP b s ub r hwf hbm hPok hac m)
noncomputable def newW (w : World) (v1 v2 : Value) : World := (((w.alloc (.map #[] 0)).alloc (.map #[] 0)).alloc (.cells #[v1, v2] 92)).alloc (.cells #[.map (some w.heap.size), .map (some (w.heap.size + 1)), .slice (some ⟨w.heap.size + 1 + 1, 0, none⟩) 1 1] 96)
theorem USt.made (w : World) (x y : Tr) (v1 v2 : Value) (h1 : FoIn w 0 x.fo [v1]) (h2 : FoIn w 0 y.fo [v2]) : USt w 0 (fun _ => none) [] w.heap.size (w.heap.size + 1 + 1 + 1) [(x, y)] (newW w v1 v2) := by
  have k3 : (newW w v1 v2).heap[w.heap.size + 1 + 1 + 1]? = some (.cells #[.map (some w.heap.size), .map (some (w.heap.size + 1)), .slice (some ⟨w.heap.size + 1 + 1, 0, none⟩) 1 1] 96) := by
    have := heap_alloc_new (((w.alloc (.map #[] 0)).alloc (.map #[] 0)).alloc (.cells #[v1, v2] 92)) (.cells #[.map (some w.heap.size), .map (some (w.heap.size + 1)), .slice (some ⟨w.heap.size + 1 + 1, 0, none⟩) 1 1] 96)
    simp only [World.size_alloc] at this
    exact this
  have k2 : (newW w v1 v2).heap[w.heap.size + 1 + 1]? = some (.cells #[v1, v2] 92) := by
    have := heap_alloc_new ((w.alloc (.map #[] 0)).alloc (.map #[] 0)) (.cells #[v1, v2] 92)
    simp only [World.size_alloc] at this
    exact (Below.heap_alloc _ _ _ (by simp)).trans this
  have m1 : VMap (newW w v1 v2) (w.heap.size + 1) 0 [] := by
    have := VMap.made (w.alloc (.map #[] 0))
    simp only [World.size_alloc] at this
    exact (this.allocd _).allocd _
  have m0 : VMap (newW w v1 v2) w.heap.size 0 [] := (((VMap.made w).allocd _).allocd _).allocd _
  have hB : Below w.heap.size w (newW w v1 v2) := ((((Below.refl _ _).alloc (Nat.le_refl _) _).alloc (by simp) _).alloc (by simp; omega) _).alloc (by simp; omega) _
  refine ⟨hB, cell_of_row _ _ 0 _ _ _ k3, m0, ⟨fun x u h => (by cases h), fun x _ => rfl⟩, ⟨some ⟨w.heap.size + 1 + 1, 0, none⟩, 1, 1, ?_⟩, Nat.le_refl _, by omega, ⟨w.heap.size + 1, by omega, by omega, cell_of_row _ _ 1 _ _ _ k3, m1⟩⟩
  exact ⟨cell_of_row _ _ 2 _ _ _ k3, frozen_of_row _ _ 2 _ _ k3, rfl, ⟨[(v1, v2)], ⟨rfl, .inr ⟨w.heap.size + 1 + 1, 1, #[v1, v2], rfl, by omega, k2, Nat.le_refl _, by decide, rfl, rfl⟩⟩, ⟨_, [], rfl, h1, h2, rfl⟩⟩, fun g e => by cases e; omega⟩
set_option maxRecDepth 100000 in
theorem newUnifier_any (w : World) (t1 t2 : TypeId) (y1 y2 : Value) : Calls Tryz.prog 26 #[.iface t1 y1, .iface t2 y2] w fun e w' => e = .returned (.pointer (some ⟨w.heap.size + 1 + 1 + 1, 0, none⟩)) ∧ w' = newW w (.iface t1 y1) (.iface t2 y2) := by
  have hmm := @run_makeMap Tryz.prog
  go_enter Tryz.func26, Tryz.ntmps26
  go_wp2_with fail
  go_ret
  exact ⟨rfl, rfl⟩
theorem RI.made (w : World) (x y : Tr) (v1 v2 : Value) (h1 : FoIn w 0 x.fo [v1]) (h2 : FoIn w 0 y.fo [v2]) (ox : x.fo.ok) (oy : y.fo.ok) (lx : (tcs x).length ≤ 2000) (ly : (tcs y).length ≤ 2000) : RI w 0 w.heap.size (w.heap.size + 1 + 1 + 1) (runU 4 5 3 20000 (fun _ => none) [(x, y)]) 0 (fun _ => none) (fun _ => none) [] [(x, y)] (newW w v1 v2) :=
  ⟨.refl _, ⟨⟨fun _ => 0, fun v u h => (by cases h)⟩, fun v u h => (by cases h)⟩, fun v u h => (by cases h), USt.made w x y v1 v2 h1 h2, Nat.le_refl _, by simp, fun p hp => (by rw [List.mem_singleton.1 hp]; exact ⟨⟨ox, oy⟩, lx, ly⟩), rfl⟩
end Go.Proofs.YtaakpdakeolgeaaGreat

