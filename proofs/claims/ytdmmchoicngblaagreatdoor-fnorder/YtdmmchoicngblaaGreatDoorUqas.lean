/- Texts of OrR3, CapC, FeJ, FeJ2, FeK0, OrZ4, OpsSort, OpsSort2. Own work of the verifier. -/
import Derived.Test.YtdmmchoicngblaaGreatDoorUqae
import Derived.Test.YtdmmchoicngblaaGreatDoorUqaq
import Derived.Sort.OwnSortedInts
import Derived.Test.YtdmmchoicngblaaGreatDoorOpsL
import Derived.Test.YtdmmchoicngblaaGreatDoorUqam
namespace Go.Proofs.YtdmmchoicngblaaGreatDoor
set_option linter.unusedVariables false
set_option linter.unusedSimpArgs false
set_option maxRecDepth 100000
section
open Go Go.RowKit Go.Maps
theorem argsCompC_any (b g q cq : Nat) (w : World) (h : w.cell? ⟨b, 1, none⟩ = some (.slice (some ⟨g, 0, none⟩) q cq)) :
  Calls Tryz.prog 116 #[.iface 139 (.pointer (some ⟨b, 0, none⟩))] w fun e w' => e = .returned (.slice (some ⟨g, 0, none⟩) q cq) ∧ w' = w := by
 have n1 := isComp
 go_enter Tryz.func116, Tryz.ntmps116
 go_wp2_with fail; go_ret; exact ⟨rfl, rfl⟩
theorem visitC_any (c : Cel) (K : List Value → Prop) (v : Value) (B vb nb mb : Nat) (ks : List Int) (p : Option Addr) (n cp : Nat) (w0 w : World) (hc : cellB c.1 c.2.1 c.2.2.length = true) (hl : ks.length ≤ 100000) (hn : NodeC w0 c K v) (hs : VState w B vb nb mb ks p n cp) :
  Calls Tryz.prog 205 #[v, .pointer (some ⟨nb, 0, none⟩), .pointer (some ⟨vb, 0, none⟩)] w fun e w' => e = .returned (.tuple #[]) ∧ (∃ p' n' c', VState w' B vb nb mb (visitL ks c) p' n' c') ∧ Below B w w' := by
 have oth : ∀ (t : TypeId) (x : Value), (t = 150 ∨ t = 94 ∨ t = 139) → c.1 ≠ 0 → Calls Tryz.prog 205 #[.iface t x, .pointer (some ⟨nb, 0, none⟩), .pointer (some ⟨vb, 0, none⟩)] w fun e w' => e = .returned (.tuple #[]) ∧ (∃ p' n' c', VState w' B vb nb mb (visitL ks c) p' n' c') ∧ Below B w w' := fun t x ht h0 =>
  (visitOther_any t x vb nb w ht).mono fun e w' ⟨he, m, hw⟩ => by
    have hb : ∀ A, Below A w w' := fun A => by rw [hw]; exact ⟨rfl, rfl, rfl, Nat.le_refl _, fun _ _ => rfl⟩
    exact ⟨he, ⟨p, n, cp, by rw [visitL, if_neg h0]; exact hs.below (hb _)⟩, hb _⟩
 rcases hn with ⟨h0, rfl⟩ | ⟨h0, rfl⟩ | ⟨h0, rfl⟩ | ⟨h0, b, g, cq, vs, rfl, _⟩
 ·rw [h0] at hc
  have hx : 0 ≤ c.2.1 ∧ c.2.1 ≤ 1000000 := by simp [cellB] at hc; omega
  rw [visitL, if_pos h0]; exact visitVar_any c.2.1 B vb nb mb ks p n cp w hx.1 hx.2 hl hs
 ·exact oth _ _ (.inl rfl) (by rw [h0]; decide)
 ·exact oth _ _ (.inr (.inl rfl)) (by rw [h0]; decide)
 ·exact oth _ _ (.inr (.inr rfl)) (by rw [h0]; decide)
set_option maxHeartbeats 1000000 in
theorem walkC_any : ∀ (N : Nat) (c : Cel) (k : Fo) (v : Value) (B vb nb mb : Nat) (ks : List Int) (p : Option Addr) (n cp : Nat) (w0 w : World), k.cells.length ≤ N → (Fo.node c k .nil).ok → FoC w0 (.node c k .nil) [v] → Below w0.heap.size w0 w → w0.heap.size ≤ B → B ≤ w.heap.size → VState w B vb nb mb ks p n cp → ks.length + 1 + k.cells.length ≤ 100000 →
  Calls Tryz.prog 44 #[v, .func (.func 205) #[] #[.pointer (some ⟨nb, 0, none⟩), .pointer (some ⟨vb, 0, none⟩)]] w (WalkOut w B vb nb mb (visits ks (c :: k.cells))) := by
 intro N
 induction N using Nat.strongRecOn with
 | _ N ih =>
   intro c k v B vb nb mb ks p n cp w0 w hN hok hfo hw hB0 hB hs hlen
   obtain ⟨v', vr, e, hnode, _⟩ := hfo; obtain ⟨rfl, rfl⟩ := List.cons.inj e; have HV := visitC_any c _ v B vb nb mb ks p n cp w0 w hok.1 (by omega) hnode hs; rw [visits_cons]; have hvl := visitL_len ks c; have HIH : Hid _ := ih; have HW : Hid (Below w0.heap.size w0 w) := hw
   have leaf : ∀ (t : TypeId) (x : Value), v = .iface t x → (t = 82 ∨ t = 150 ∨ t = 94) → c.1 ≠ 3 → Calls Tryz.prog 44 #[v, .func (.func 205) #[] #[.pointer (some ⟨nb, 0, none⟩), .pointer (some ⟨vb, 0, none⟩)]] w (WalkOut w B vb nb mb (visits (visitL ks c) k.cells)) := fun t x hv ht h3 => by
    have hk : k = .nil := hok.2.2.2.1 h3; subst hk hv
    have HA := fun W => argsLeaf_any t x W ht
    clear hok hnode hs HIH ih e hw
    go_enter Tryz.func44, Tryz.ntmps44
    go_wp2_with fail; refine HV.mono ?_; rintro e w1 ⟨rfl, hst, hb⟩; go_wp2_with fail; refine (HA _).mono ?_; rintro e w2 ⟨rfl, rfl⟩; go_wp2_with fail; refine wp_loop_rounds 1 ?_; rw [rounds_succ]; go_wp2_with fail
    go_end0
    exact ⟨rfl, hst, hb⟩
   rcases hnode with ⟨h0, hv⟩ | ⟨h0, hv⟩ | ⟨h0, hv⟩ | ⟨h0, b, g, cq, vs, hv, hcomp⟩
   ·exact leaf _ _ hv (.inl rfl) (by rw [h0]; decide)
   ·exact leaf _ _ hv (.inr (.inl rfl)) (by rw [h0]; decide)
   ·exact leaf _ _ hv (.inr (.inr rfl)) (by rw [h0]; decide)
   ·subst hv
    clear leaf; have HC : Hid _ := hcomp; have hvl2 : vs.length = k.count := FoC.count _ _ hcomp.2.2.2.2.2.2
    obtain ⟨q, eq⟩ : ∃ q, q = vs.length := ⟨_, rfl⟩
    have HE : Hid (q = vs.length ∧ vs.length = k.count) := ⟨eq, hvl2⟩
    have hq : q ≤ 100000 := by have := Fo.count_le k; omega
    have HK : Hid k.ok := hok.2.2.2.2.1
    have HBB : Hid (b < w0.heap.size ∧ w0.cell? ⟨b, 1, none⟩ = some (.slice (some ⟨g, 0, none⟩) q cq)) := ⟨World.block_lt_of_cell? _ _ hcomp.2.2.2.1, by rw [eq]; exact hcomp.2.2.2.1⟩
    clear hcomp hok hs ih e hw eq hvl2
    go_enter Tryz.func44, Tryz.ntmps44
    go_wp2_with fail; refine HV.mono ?_; rintro e w1 ⟨rfl, hst, hb1⟩; have d1 : w1.cell? ⟨b, 1, none⟩ = some (.slice (some ⟨g, 0, none⟩) q cq) := (((HW.out.trans (hb1.mono hB0)).cell (p := ⟨b, 1, none⟩) HBB.out.1)).trans HBB.out.2; have HST : Hid _ := hst; have HB1 : Hid (Below B w w1) := hb1; clear hst hb1 HV; go_wp2_with fail; refine (argsCompC_any b g q cq _ d1).mono ?_; rintro e w2 ⟨rfl, hw2⟩; subst hw2; clear d1; go_wp2_with fail
    go_loopw [12] (fun i wr => ∃ (D R : Fo) (us vs2 : List Value) (j : Nat), j ≤ q ∧ i = .int .i64 j ∧ Hid (k = D.cat R ∧ vs = us ++ vs2 ∧ us.length = j) ∧ Hid (FoC w0 R vs2) ∧ Hid (∃ p n c', VState wr B vb nb mb (visits (visitL ks c) D.cells) p n c') ∧ Hid (Below B w wr)) (fun i _ => q - (intOf i).toNat)
    case atStart => exact ⟨.nil, k, [], vs, 0, Nat.zero_le _, rfl, ⟨rfl, rfl, rfl⟩, HC.out.2.2.2.2.2.2, HST, HB1⟩
    case round =>
     obtain ⟨D, R, us, vs2, j, hj, rfl, HF, HR, HS, HB⟩ := hrel
     by_cases hlt : j < q
     ·obtain ⟨c', k', r', rfl⟩ : ∃ c' k' r', R = .node c' k' r' := by
       cases R with
       | nil =>
         have h1 := HF.out; have h2 : vs2 = [] := HR.out; have h3 := HE.out.1; rw [h1.2.1, h2, List.append_nil] at h3
         omega
       | node c' k' r' => exact ⟨c', k', r', rfl⟩
      obtain ⟨v, vr, rfl, hnode, hrest⟩ := HR.out; have hok2 := (Fo.ok_cat D (.node c' k' r')).1 (HF.out.1 ▸ HK.out)
      have hl2 : D.cells.length + (k'.cells.length + r'.cells.length + 1) = k.cells.length := by
       rw [HF.out.1, Fo.cells_cat]; simp [Fo.cells]
      have hat : w0.cell? ⟨g, j, none⟩ = some v := by
       rw [HC.out.2.2.2.2.2.1 j (by rw [← HE.out.1]; exact hlt), HF.out.2.1]
       simp [List.getD, HF.out.2.2]
      have hwr : Below w0.heap.size w0 wr := HW.out.trans (HB.out.mono hB0); have c5 : wr.cell? ⟨g, j, none⟩ = some v := (hwr.cell (World.block_lt_of_cell? _ _ hat)).trans hat; obtain ⟨p4, n4, c4, hs4⟩ := HS.out; have hB4 : B ≤ wr.heap.size := Nat.le_trans hB HB.out.size; have HWK := HIH.out k'.cells.length (by omega) c' k' v B vb nb mb (visits (visitL ks c) D.cells) p4 n4 c4 w0 wr (Nat.le_refl _) ⟨hok2.2.1, hok2.2.2.1, hok2.2.2.2.1, hok2.2.2.2.2.1, hok2.2.2.2.2.2.1, trivial⟩ ⟨v, [], rfl, hnode, rfl⟩ hwr hB0 hB4 hs4 (by have := visits_len D.cells (visitL ks c); omega); obtain ⟨vt, vx, rfl⟩ := hnode.iface; have HRR : Hid (FoC w0 r' vr) := hrest; clear hok2 hl2 hat hwr hs4 hnode hrest HIH; go_wp2_with fail; refine HWK.mono ?_; rintro e w3 ⟨rfl, hst3, hb3⟩
      have HN : Hid (k = (D.cat (.node c' k' .nil)).cat r' ∧ vs = (us ++ [.iface vt vx]) ++ vr ∧ (us ++ [Value.iface vt vx]).length = j + 1) := ⟨by rw [Fo.cat_assoc]; exact HF.out.1, by rw [HF.out.2.1]; simp, by simp [HF.out.2.2]⟩
      have HST3 : Hid (∃ p n c2, VState w3 B vb nb mb (visits (visitL ks c) (D.cat (.node c' k' .nil)).cells) p n c2) := by
       show ∃ p n c2, VState w3 B vb nb mb _ p n c2
       rw [Fo.cells_cat, visits_append]; simpa [Fo.cells] using hst3
      have HB3 : Hid (Below B w w3) := HB.out.trans hb3; clear hst3 hb3 HWK; go_wp2_with fail; go_roundw
      case rel => exact ⟨D.cat (.node c' k' .nil), r', us ++ [.iface vt vx], vr, j + 1, by omega, by go_num, HN, HRR, HST3, HB3⟩
      case measure => simp [intOf]; omega
     ·obtain rfl : j = q := by omega
      obtain rfl : R = .nil := by
       have h1 := FoC.count _ _ HR.out; have h2 := HE.out; rw [HF.out.2.1, List.length_append] at h2; have h3 := HF.out.2.2
       cases R with
       | nil => rfl
       | node a b d => simp [Fo.count] at h1; omega
      have HF' : Hid (D = k) := by have := HF.out.1; rw [Fo.cat_nil] at this; exact this.symm
      go_wp2_with fail
      go_end0
      refine ⟨rfl, ?_, HB.out⟩; have h1 := HS.out
      rwa [HF'.out] at h1
theorem variablesC_any (c : Cel) (k : Fo) (v : Value) (w : World) (hok : (Fo.node c k .nil).ok) (hfo : FoC w (.node c k .nil) [v]) (hl : k.cells.length ≤ 10000) :
  Calls Tryz.prog 136 #[v] w fun e w' => ∃ p n cp, e = .returned (.slice p n cp) ∧ OwnI w' w.heap.size 82 p n cp (visits [] (c :: k.cells)) ∧ Below w.heap.size w w' := by
 have hmm := @run_makeMap Tryz.prog; obtain ⟨vt, vx, rfl⟩ := hfo.iface; have hW : Below w.heap.size w (((w.alloc (Obj.cells #[Value.slice none 0 0] 179)).alloc (Obj.map #[] 0)).alloc (Obj.cells #[Value.map (some (w.heap.size + 1))] 191)) := (((Below.refl _ _).alloc (Nat.le_refl _) _).alloc (by simp) _).alloc (by simp; omega) _
 have hS : VState (((w.alloc (Obj.cells #[Value.slice none 0 0] 179)).alloc (Obj.map #[] 0)).alloc (Obj.cells #[Value.map (some (w.heap.size + 1))] 191)) w.heap.size w.heap.size (w.heap.size + 1 + 1) (w.heap.size + 1) [] none 0 0 := by
  have h0 : (((w.alloc (Obj.cells #[Value.slice none 0 0] 179)).alloc (Obj.map #[] 0)).alloc (Obj.cells #[Value.map (some (w.heap.size + 1))] 191)).heap[w.heap.size]? = some (Obj.cells #[Value.slice none 0 0] 179) := (Below.heap_alloc _ _ _ (by simp; omega)).trans ((Below.heap_alloc _ _ _ (by simp)).trans (heap_alloc_new _ _)); have h3 := heap_three w (Obj.cells #[Value.slice none 0 0] 179) (Obj.map #[] 0) (Obj.cells #[Value.map (some (w.heap.size + 1))] 191); refine ⟨cell_of_row _ _ 0 _ _ _ h0, frozen_of_row _ _ 0 _ _ h0, cell_of_row _ _ 0 _ _ _ h3.2, rfl, World.ownsRow_nil _ _ _ _, ?_, Nat.le_refl _, by omega, by omega, fun g e => by cases e⟩; have hm := NumMap.made (w.alloc (Obj.cells #[Value.slice none 0 0] 179))
  have e : (w.alloc (Obj.cells #[Value.slice none 0 0] 179)).heap.size = w.heap.size + 1 := by simp
  rw [e] at hm; exact hm.of_block (Below.heap_alloc _ _ _ (by simp))
 have HWK := walkC_any k.cells.length c k _ w.heap.size w.heap.size (w.heap.size + 1 + 1) (w.heap.size + 1) [] none 0 0 w _ (Nat.le_refl _) hok hfo hW (Nat.le_refl _) hW.size hS (by simp; omega); have HW : Hid _ := hW; clear hok hfo hS hW
 go_enter Tryz.func136, Tryz.ntmps136
 go_wp2_with fail; refine HWK.mono ?_; rintro e w1 ⟨rfl, ⟨p, n, cp, hst⟩, hb⟩; have d0 := hst.vcell
 have HR : Hid (OwnI w1 w.heap.size 82 p n cp (visits [] (c :: k.cells))) := ⟨hst.len, hst.row⟩
 have HB : Hid (Below w.heap.size w w1) := HW.out.trans hb; clear hst hb HWK; go_wp2_with fail; go_ret; exact ⟨_, _, _, rfl, HR.out, HB.out⟩
end
section
open Go Go.RowKit
def CapCC (w : World) (p : Option Addr) (css : List (List Cel)) : Prop := 0 < css.length → ∃ b o, p = some ⟨b, o, none⟩ ∧ ∀ i, i < css.length → ∃ q c, w.cell? ⟨b, o + i, none⟩ = some (.slice q (css.getD i []).length c) ∧ CIn w q (css.getD i []) ∧ (css.getD i []).length ≤ c ∧ c ≤ 9223372036854775807
theorem CapCC.below {w w' : World} {p : Option Addr} {css : List (List Cel)} (h : CapCC w p css) (hb : Below w.heap.size w w') : CapCC w' p css := fun hn => by
 obtain ⟨b, o, rfl, hc⟩ := h hn; refine ⟨b, o, rfl, fun i hi => ?_⟩; obtain ⟨q, c, h1, h2, h3⟩ := hc i hi; exact ⟨q, c, (hb.cell (World.block_lt_of_cell? _ _ h1)).trans h1, h2.below hb, h3⟩
theorem CapCC.ccin {w : World} {p : Option Addr} {css : List (List Cel)} (h : CapCC w p css) : CCIn w p css := fun hn => by
 obtain ⟨b, o, rfl, hc⟩ := h hn; refine ⟨b, o, rfl, fun i hi => ?_⟩; obtain ⟨q, c, h1, h2, h3⟩ := hc i hi; exact ⟨q, c, h1, h2⟩
theorem capC_row {w : World} {B s n c : Nat} {e : TypeId} {p : Option Addr} {vs : List Value} (h : w.ownsRow B e s (.slice p n c) n vs) : n ≤ c ∧ c ≤ 9223372036854775807 := by
 rcases h.2 with ⟨hv, h0⟩ | ⟨g, cap, cur, hv, _, _, h1, h2, _⟩
 ·simp at hv
  omega
 ·simp at hv
  unfold maxLen at h2
  omega
theorem OwnC.room {w : World} {B m c : Nat} {q : Option Addr} {cs : List Cel} (h : OwnC w B q m c cs) : m ≤ c ∧ c ≤ 9223372036854775807 := by obtain ⟨_, rs, _, ho, _⟩ := h; exact capC_row ho
theorem LS.cap {w : World} {B m c : Nat} {q : Option Addr} {css : List (List Cel)} (h : LS w B q m c css) : CapCC w q css := fun hn => by
 obtain ⟨hz, rs, h1, h2, h3, h4⟩ := h; obtain ⟨g, cap, hv, hb, hg⟩ := h3.form (by omega); simp only [Value.slice.injEq, true_and] at hv; obtain ⟨rfl, rfl⟩ := hv; refine ⟨g, 0, rfl, fun i hi => ⟨(rs.getD i Sl3.zero).1, (rs.getD i Sl3.zero).2.2, ?_, (h4 i hi).cin, ?_⟩⟩
 ·rw [Nat.zero_add, h3.cellAt i (by omega), List.getElem?_map, List.getElem?_eq_getElem (show i < rs.length by omega)]
  have e : rs.getD i Sl3.zero = rs[i]'(by omega) := by rw [List.getD, List.getElem?_eq_getElem (show i < rs.length by omega)]; rfl
  have := (h4 i hi).1; rw [← this, e]
  rfl
 ·rw [← (h4 i hi).1]
  exact (h4 i hi).room
theorem OwnCC.cap {w : World} {B U : Nat} {p : Option Addr} {n c : Nat} {css : List (List Cel)} (h : OwnCC w B U p n c css) : CapCC w p css := fun hn => by
 obtain ⟨ds, h⟩ := h; have hl := h.len; obtain ⟨g, cap, hv, hb, hg⟩ := h.row.form (by omega); simp only [Value.slice.injEq, true_and] at hv; obtain ⟨rfl, rfl⟩ := hv; refine ⟨g, 0, rfl, fun i hi => ⟨(ds.getD i It.zero).1, (ds.getD i It.zero).2.1, ?_, (h.item i hi).toC.cin, (h.item i hi).toC.room⟩⟩; rw [Nat.zero_add, h.row.cellAt i (by omega)]; exact vals_at ds css i hi
end
section
open Go Go.RowKit
def RowS (w : World) (g : Nat) : Prop := ∃ cur t fz, w.heap[g]? = some (.cells cur t fz) ∧ t ≠ 55 ∧ ∃ q n c, cur[0]? = some (.slice q n c)
theorem RowG.rs {w : World} {g : Nat} (h : RowG w g) : RowS w g := by
 obtain ⟨cur, h1, h2⟩ := h; exact ⟨cur, _, _, h1, by decide, h2⟩
theorem OwnC.grownS {w w' : World} {B n c : Nat} {p : Option Addr} {cs : List Cel} {row : Option Nat} (h : OwnC w B p n c cs) (hg : w.grownBy w' row) (hr : ∀ g, row = some g → RowS w g) : OwnC w' B p n c cs := by
 obtain ⟨hn, rs, hl, ho, hf, ha⟩ := h; refine ⟨hn, rs, hl, ho.kept hg ?_, fun i hi => ⟨(hf i hi).1, (hf i hi).2.1, (hf i hi).2.2.other hg.size (fun k h0 ek => ?_)⟩, ha⟩
 ·rcases ho.2 with ⟨hv, _⟩ | ⟨g, cap, cur, hv, _, hgg, _⟩
  ·rw [hv]; exact .inl rfl
  ·refine .inr (fun e => ?_)
   rw [hv] at e; obtain ⟨cur', t', fz, h1, ht, _⟩ := hr g e.symm; rw [h1] at hgg
   simp at hgg
   exact ht hgg.2.1
 ·obtain ⟨k', e', _, hk, hc⟩ := (hf i hi).2.2.2 h0
  rw [ek] at e'
  cases e'
  refine hg.block k hk (fun e => ?_); obtain ⟨cur', t', fz, h1, _, q, m, d, h2⟩ := hr k e.symm; have h3 := (hc 0 h0).1
  unfold World.cell? at h3
  simp only [h1] at h3
  have h4 : cur'[0]? = some (.int .u8 (((cs.getD i Cel.none).2.2).getD 0 0)) := by simpa using h3
  rw [h2] at h4
  cases h4
theorem LS.keptS {w w' : World} {B m c : Nat} {q : Option Addr} {css : List (List Cel)} {row : Option Nat} (h : LS w B q m c css) (hg : w.grownBy w' row) (hr : ∀ g, row = some g → RowS w g) (hne : Value.ownBlock (.slice q m c) = none ∨ Value.ownBlock (.slice q m c) ≠ row) : LS w' B q m c css := by
 obtain ⟨hz, rs, h1, h2, h3, h4⟩ := h; exact ⟨hz, rs, h1, h2, h3.kept hg hne, fun j hj => (h4 j hj).grownS hg hr⟩
theorem LS.rowT {w : World} {B m c : Nat} {q : Option Addr} {css : List (List Cel)} (h : LS w B q m c css) {g : Nat} (hg : Value.ownBlock (.slice q m c) = some g) : ∃ cur fz, w.heap[g]? = some (.cells cur 23 fz) ∧ B ≤ g ∧ g < w.heap.size := by
 obtain ⟨hz, rs, h1, h2, h3, h4⟩ := h
 rcases h3.2 with ⟨h', _⟩ | ⟨g', cap, cur, hv, hB, hh, r⟩
 ·rw [h'] at hg; cases hg
 ·rw [hv] at hg
  cases hg
  exact ⟨cur, _, hh, hB, (Array.getElem?_eq_some_iff.1 hh).1⟩
theorem LS.set {w : World} {B m c : Nat} {q : Option Addr} {css : List (List Cel)} (h : LS w B q m c css) {b i : Nat} {cur : Array Value} {t : TypeId} {fz : Nat × Nat} (hb : w.heap[b]? = some (.cells cur t fz)) (ht : t ≠ 55) (ht2 : t ≠ 23) (h0 : ∃ q n c, cur[0]? = some (.slice q n c)) (v : Value) : LS (w.setCell ⟨b, i, none⟩ v) B q m c css := by
 refine h.keptS (row := some b) ⟨rfl, rfl, rfl, by simp, fun k hk hne => heap_setCell_other _ _ _ _ (fun e => hne (by simp at e; rw [e]))⟩ (fun g e => by cases e; exact ⟨cur, t, fz, hb, ht, h0⟩) ?_
 cases hv : Value.ownBlock (.slice q m c) with
 | none => exact .inl rfl
 | some g =>
   refine .inr (fun e => ?_)
   cases e
   obtain ⟨cur', fz', hx, _⟩ := h.rowT hv; rw [hb] at hx
   simp at hx
   exact ht2 hx.2.1
theorem run_app_ls (w : World) (ty : TypeId) (B : Nat) (q : Option Addr) (m c : Nat) (css : List (List Cel)) (it : Sl3) (ds : List Cel) (b : Nat) (hown : LS w B q m c css) (hit : OwnC w B it.1 it.2.1 it.2.2 ds) (hb : w.cell? ⟨b, 0, none⟩ = some (slV it)) (hB : B ≤ w.heap.size) (hm : m ≤ 1000) :
  ∃ g cap w', (Builtin.append_ #[33, 33] ty #[.slice q m c, .slice (some ⟨b, 0, none⟩) 1 1]).run Tryz.prog w = .ok (.slice (some ⟨g, 0, none⟩) (m + 1) cap) w' ∧ LS w' B (some ⟨g, 0, none⟩) (m + 1) cap (css ++ [ds]) ∧ w.grownBy w' (Value.ownBlock (.slice q m c)) ∧ (Value.ownBlock (.slice q m c) = some g ∨ g = w.heap.size) := by
 obtain ⟨i0, hi, hz0, hz1, hz2⟩ := info_parts infoCells; have H := hown; obtain ⟨hz, rs, h1, h2, h3, h4⟩ := hown; obtain ⟨g, cap, w', hr, hown', hgrow, hat, hlt⟩ := run_append_lies (P := Tryz.prog) w 33 ty B 23 i0 (.slice none 0 0) 1 24 Tryz.underlying33 hi hz0 hz1 hz2 rfl (by decide) (.slice q m c) m (rs.map slV) h3 ⟨b, 0, none⟩ 1 1 [slV it] rfl
  (fun j u hj => by
    cases j with
    | zero => simp at hj; subst hj; rw [Addr.add_lit]; exact hb
    | succ j => simp at hj) (fun u hu => by rw [List.mem_singleton.1 hu]; rfl) (by decide) (by unfold maxLen; omega) (by omega) hB _ rfl
 have hrow : ∀ g, Value.ownBlock (.slice q m c) = some g → RowG w g := fun g hg => by
  rcases Nat.eq_zero_or_pos m with h00 | h00
  ·rw [hz (by omega)] at hg; cases hg
  ·exact (LS.row ⟨hz, rs, h1, h2, h3, h4⟩ g hg (by omega)).1
 refine ⟨g, cap, w', hr, ⟨fun e => by simp at e, rs ++ [it], by simp [h1], by simp [h2], by rw [List.map_append]; exact hown', fun j hj => ?_⟩, hgrow, hat⟩; rw [sl_cat_at, css_cat_at, h1]
 split
 ·rename_i hlt
  exact (h4 j hlt).grown hgrow hrow
 ·obtain rfl : j = css.length := by simp at hj; omega
  simpa using hit.grown hgrow hrow
structure IC (w0 w : World) (b : Nat) (pl : Option Addr) (jl cl : Nat) (L : List (List Cel)) (pr : Option Addr) (jr cr : Nat) (R : List (List Cel)) (ov : Value) : Prop where
 bel : Below w0.heap.size w0 w
 lft : LS w w0.heap.size pl jl cl L
 rgt : LS w w0.heap.size pr jr cr R
 apt : Value.ownBlock (.slice pl jl cl) = none ∨ Value.ownBlock (.slice pl jl cl) ≠ Value.ownBlock (.slice pr jr cr)
 box : w.heap[b]? = some (.cells #[.slice pl jl cl, .slice pr jr cr, .slice none 0 0, ov] 40)
 low : w0.heap.size ≤ b
section
variable {w0 w : World} {b : Nat} {pl : Option Addr} {jl cl : Nat} {L : List (List Cel)} {pr : Option Addr} {jr cr : Nat} {R : List (List Cel)} {ov : Value}
theorem IC.below (H : IC w0 w b pl jl cl L pr jr cr R ov) {w' : World} (hb : Below w.heap.size w w') : IC w0 w' b pl jl cl L pr jr cr R ov :=
 ⟨Below.on H.bel hb, H.lft.below hb, H.rgt.below hb, H.apt, (hb.block _ (Array.getElem?_eq_some_iff.1 H.box).1).trans H.box, H.low⟩
theorem IC.bx (H : IC w0 w b pl jl cl L pr jr cr R ov) : w.cell? ⟨b, 0, none⟩ = some (.slice pl jl cl) ∧ w.cell? ⟨b, 1, none⟩ = some (.slice pr jr cr) ∧ w.cell? ⟨b, 2, none⟩ = some (.slice none 0 0) ∧ w.cell? ⟨b, 3, none⟩ = some ov ∧ ∀ j, w.frozen? ⟨b, j, none⟩ = false := by
 have h := H.box; exact ⟨cell_of_row _ _ 0 _ _ _ h, cell_of_row _ _ 1 _ _ _ h, cell_of_row _ _ 2 _ _ _ h, cell_of_row _ _ 3 _ _ _ h, fun j => frozen_of_row _ _ _ _ _ h⟩
theorem IC.left (H : IC w0 w b pl jl cl L pr jr cr R ov) (ty : TypeId) (it : Sl3) (ds : List Cel) (e : Nat) (hit : OwnC w w0.heap.size it.1 it.2.1 it.2.2 ds) (he : w.cell? ⟨e, 0, none⟩ = some (slV it)) (hm : jl ≤ 1000) :
  ∃ g cap w', (Builtin.append_ #[33, 33] ty #[.slice pl jl cl, .slice (some ⟨e, 0, none⟩) 1 1]).run Tryz.prog w = .ok (.slice (some ⟨g, 0, none⟩) (jl + 1) cap) w' ∧ IC w0 (w'.setCell ⟨b, 0, none⟩ (.slice (some ⟨g, 0, none⟩) (jl + 1) cap)) b (some ⟨g, 0, none⟩) (jl + 1) cap (L ++ [ds]) pr jr cr R ov ∧
    (∀ (k : Nat) (cs : Array Value) (t : TypeId) (fz : Nat × Nat), w.heap[k]? = some (.cells cs t fz) → t ≠ 23 → w'.heap[k]? = some (.cells cs t fz)) ∧ w.heap.size ≤ w'.heap.size := by
 obtain ⟨g, cap, w', hr, hls, hg, hat⟩ := run_app_ls w ty w0.heap.size pl jl cl L it ds e H.lft hit he H.bel.size hm
 have keep : ∀ (k : Nat) (cs : Array Value) (t : TypeId) (fz : Nat × Nat), w.heap[k]? = some (.cells cs t fz) → t ≠ 23 → w'.heap[k]? = some (.cells cs t fz) := fun k cs t fz hk ht => by
  refine (hg.block k (Array.getElem?_eq_some_iff.1 hk).1 (fun e => ?_)).trans hk; obtain ⟨cur, fz', hx, _⟩ := H.lft.rowT e.symm; rw [hk] at hx
  simp at hx
  exact ht hx.2.1
 have hbx := keep _ _ _ _ H.box (by decide)
 have hrow : ∀ g, Value.ownBlock (.slice pl jl cl) = some g → RowS w g := fun g hg => by
  rcases Nat.eq_zero_or_pos L.length with h00 | h00
  ·rw [H.lft.1 h00] at hg; cases hg
  ·exact (H.lft.row g hg h00).1.rs
 have hapt : Value.ownBlock (.slice pr jr cr) = none ∨ Value.ownBlock (.slice pr jr cr) ≠ Value.ownBlock (.slice pl jl cl) := by
  rcases H.apt with h | h
  ·cases hv : Value.ownBlock (.slice pr jr cr) with
   | none => exact .inl rfl
   | some k => exact .inr (by rw [h]; simp)
  ·exact .inr (fun e => h e.symm)
 have ho := H.rgt.keptS hg hrow hapt
 have hne : ∀ k, Value.ownBlock (.slice pr jr cr) = some k → k ≠ g := fun k hk e => by
  subst e
  rcases hat with h | h
  ·rcases hapt with h' | h'
   ·rw [h'] at hk; cases hk
   ·exact h' (hk.trans h.symm)
  ·have := (H.rgt.rowT hk)
   obtain ⟨_, _, _, _, h2⟩ := this
   omega
 have h0 : ∃ q n c, (#[.slice pl jl cl, .slice pr jr cr, .slice none 0 0, ov] : Array Value)[0]? = some (.slice q n c) := ⟨_, _, _, rfl⟩
 refine ⟨g, cap, w', hr, ⟨?_, hls.set hbx (by decide) (by decide) h0 _, ho.set hbx (by decide) (by decide) h0 _, ?_, ?_, H.low⟩, keep, hg.size⟩
 ·exact ((Below.refl _ _).trans H.bel).grown hg H.bel.size (fun k hk => by obtain ⟨_, _, _, h2, _⟩ := H.lft.rowT hk; exact h2) |>.setCell (by simpa using H.low) _
 ·exact .inr (fun e => hne g e.symm rfl)
 ·rw [heap_setCell_same _ _ _ _ _ _ hbx]; rfl
theorem IC.right (H : IC w0 w b pl jl cl L pr jr cr R ov) (ty : TypeId) (it : Sl3) (ds : List Cel) (e : Nat) (hit : OwnC w w0.heap.size it.1 it.2.1 it.2.2 ds) (he : w.cell? ⟨e, 0, none⟩ = some (slV it)) (hm : jr ≤ 1000) :
  ∃ g cap w', (Builtin.append_ #[33, 33] ty #[.slice pr jr cr, .slice (some ⟨e, 0, none⟩) 1 1]).run Tryz.prog w = .ok (.slice (some ⟨g, 0, none⟩) (jr + 1) cap) w' ∧ IC w0 (w'.setCell ⟨b, 1, none⟩ (.slice (some ⟨g, 0, none⟩) (jr + 1) cap)) b pl jl cl L (some ⟨g, 0, none⟩) (jr + 1) cap (R ++ [ds]) ov ∧
    (∀ (k : Nat) (cs : Array Value) (t : TypeId) (fz : Nat × Nat), w.heap[k]? = some (.cells cs t fz) → t ≠ 23 → w'.heap[k]? = some (.cells cs t fz)) ∧ w.heap.size ≤ w'.heap.size := by
 obtain ⟨g, cap, w', hr, hls, hg, hat⟩ := run_app_ls w ty w0.heap.size pr jr cr R it ds e H.rgt hit he H.bel.size hm
 have keep : ∀ (k : Nat) (cs : Array Value) (t : TypeId) (fz : Nat × Nat), w.heap[k]? = some (.cells cs t fz) → t ≠ 23 → w'.heap[k]? = some (.cells cs t fz) := fun k cs t fz hk ht => by
  refine (hg.block k (Array.getElem?_eq_some_iff.1 hk).1 (fun e => ?_)).trans hk; obtain ⟨cur, fz', hx, _⟩ := H.rgt.rowT e.symm; rw [hk] at hx
  simp at hx
  exact ht hx.2.1
 have hbx := keep _ _ _ _ H.box (by decide)
 have hrow : ∀ g, Value.ownBlock (.slice pr jr cr) = some g → RowS w g := fun g hg => by
  rcases Nat.eq_zero_or_pos R.length with h00 | h00
  ·rw [H.rgt.1 h00] at hg; cases hg
  ·exact (H.rgt.row g hg h00).1.rs
 have hapt : Value.ownBlock (.slice pl jl cl) = none ∨ Value.ownBlock (.slice pl jl cl) ≠ Value.ownBlock (.slice pr jr cr) := by
  exact H.apt
 have ho := H.lft.keptS hg hrow hapt
 have hne : ∀ k, Value.ownBlock (.slice pl jl cl) = some k → k ≠ g := fun k hk e => by
  subst e
  rcases hat with h | h
  ·rcases hapt with h' | h'
   ·rw [h'] at hk; cases hk
   ·exact h' (hk.trans h.symm)
  ·have := (H.lft.rowT hk)
   obtain ⟨_, _, _, _, h2⟩ := this
   omega
 have h0 : ∃ q n c, (#[.slice pl jl cl, .slice pr jr cr, .slice none 0 0, ov] : Array Value)[0]? = some (.slice q n c) := ⟨_, _, _, rfl⟩
 refine ⟨g, cap, w', hr, ⟨?_, ho.set hbx (by decide) (by decide) h0 _, hls.set hbx (by decide) (by decide) h0 _, ?_, ?_, H.low⟩, keep, hg.size⟩
 ·exact ((Below.refl _ _).trans H.bel).grown hg H.bel.size (fun k hk => by obtain ⟨_, _, _, h2, _⟩ := H.rgt.rowT hk; exact h2) |>.setCell (by simpa using H.low) _
 ·cases hv : Value.ownBlock (.slice pl jl cl) with
  | none => exact .inl rfl
  | some k => exact .inr (fun e => hne k hv (by simpa [Value.ownBlock] using e))
 ·rw [heap_setCell_same _ _ _ _ _ _ hbx]; rfl
end
theorem exec_appF {a : Act} {o : Oper} {s x : Operand} {t u : TypeId} {w w' : World} {v y r : Value} (ho : o.op = .call { callee := .builtin .append, args := #[s, x], argTypes := #[t, u] }) (hs : a.eval s = v) (hx : a.eval x = y)
  (hr : (Builtin.append_ #[t, u] o.type #[v, y]).run Tryz.prog w = .ok r w') : (execOp a.eval o).run Tryz.prog w = .ok (.value r) w' := by
 unfold execOp
 simp only [ho, resolve, invoke, builtin, Sem.run_bind, Sem.run_pure, Result.andThen_ok, List.map_toArray, List.map_cons, List.map_nil, hs, hx, hr]
abbrev wr4 (w : World) (T : Nat) (a b c d : Value) : World := (((w.setCell ⟨T, 0, none⟩ a).setCell ⟨T, 1, none⟩ b).setCell ⟨T, 2, none⟩ c).setCell ⟨T, 3, none⟩ d
theorem wr4_block {w : World} {T : Nat} {u0 u1 u2 u3 : Value} {t : TypeId} (h : w.heap[T]? = some (.cells #[u0, u1, u2, u3] t)) (a b c d : Value) : (wr4 w T a b c d).heap[T]? = some (.cells #[a, b, c, d] t) := by
 have h1 : (w.setCell ⟨T, 0, none⟩ a).heap[T]? = some (.cells #[a, u1, u2, u3] t) := by rw [heap_setCell_same _ _ _ _ _ _ h]; rfl
 have h2 : ((w.setCell ⟨T, 0, none⟩ a).setCell ⟨T, 1, none⟩ b).heap[T]? = some (.cells #[a, b, u2, u3] t) := by rw [heap_setCell_same _ _ _ _ _ _ h1]; rfl
 have h3 : (((w.setCell ⟨T, 0, none⟩ a).setCell ⟨T, 1, none⟩ b).setCell ⟨T, 2, none⟩ c).heap[T]? = some (.cells #[a, b, c, u3] t) := by rw [heap_setCell_same _ _ _ _ _ _ h2]; rfl
 rw [heap_setCell_same _ _ _ _ _ _ h3]; rfl
theorem wr4_box {w : World} {T : Nat} {u0 u1 u2 u3 : Value} {t : TypeId} (h : w.heap[T]? = some (.cells #[u0, u1, u2, u3] t)) (a b c d : Value) : (wr4 w T a b c d).cell? ⟨T, 0, none⟩ = some a ∧ (wr4 w T a b c d).cell? ⟨T, 1, none⟩ = some b ∧ (wr4 w T a b c d).cell? ⟨T, 2, none⟩ = some c ∧ (wr4 w T a b c d).cell? ⟨T, 3, none⟩ = some d := by
 have h' := wr4_block h a b c d; exact ⟨cell_of_row _ _ 0 _ _ _ h', cell_of_row _ _ 1 _ _ _ h', cell_of_row _ _ 2 _ _ _ h', cell_of_row _ _ 3 _ _ _ h'⟩
theorem wr4_other {w : World} {T k : Nat} {a b c d : Value} (h : k ≠ T) : (wr4 w T a b c d).heap[k]? = w.heap[k]? := by
 have q : ∀ (W : World) (i : Nat) (v : Value), (W.setCell ⟨T, i, none⟩ v).heap[k]? = W.heap[k]? := fun W i v => heap_setCell_other W ⟨T, i, none⟩ k v (fun e => by simp at e; omega)
 exact (q _ _ _).trans ((q _ _ _).trans ((q _ _ _).trans (q _ _ _)))
theorem wr4_below {w0 w : World} {T B : Nat} (h : Below B w0 w) (hT : B ≤ T) (a b c d : Value) : Below B w0 (wr4 w T a b c d) :=
 ⟨h.os, h.tape, h.output, by simpa [wr4] using h.size, fun k hk => (wr4_other (by omega)).trans (h.block k hk)⟩
theorem wr4_ls {w : World} {T B m cc : Nat} {q : Option Addr} {css : List (List Cel)} (h : LS w B q m cc css) {p0 : Option Addr} {n0 c0 : Nat} {u1 u2 u3 : Value} (hb : w.heap[T]? = some (.cells #[.slice p0 n0 c0, u1, u2, u3] 40)) (a b c d : Value) : LS (wr4 w T a b c d) B q m cc css := by
 refine h.keptS (row := some T) ⟨rfl, rfl, rfl, by simp [wr4], fun k hk hne => wr4_other (fun e => hne (by rw [e]))⟩ (fun g e => by cases e; exact ⟨_, _, _, hb, by decide, _, _, _, rfl⟩) ?_
 cases hv : Value.ownBlock (.slice q m cc) with
 | none => exact .inl rfl
 | some g =>
   refine .inr (fun e => ?_)
   cases e
   obtain ⟨cur', fz', hx, _⟩ := h.rowT hv; rw [hb] at hx
   simp at hx
def PairsF (w : World) (p : Option Addr) (ts : List TT) : Prop := ∀ i, i < ts.length → ∃ g v u, p = some ⟨g, 0, none⟩ ∧ w.cell? ⟨g, i * 2, none⟩ = some v ∧ w.cell? ⟨g, i * 2 + 1, none⟩ = some u ∧ FoIn w 0 (ts.getD i ((Cel.none, .nil), (Cel.none, .nil))).1.fo [v] ∧ FoIn w 0 (ts.getD i ((Cel.none, .nil), (Cel.none, .nil))).2.fo [u]
theorem PairsF.below {w w' : World} {p : Option Addr} {ts : List TT} (h : PairsF w p ts) (hb : Below w.heap.size w w') : PairsF w' p ts := fun i hi => by
 obtain ⟨g, v, u, e, h1, h2, h3, h4⟩ := h i hi; exact ⟨g, v, u, e, (hb.cell (World.block_lt_of_cell? _ _ h1)).trans h1, (hb.cell (World.block_lt_of_cell? _ _ h2)).trans h2, h3.below hb, h4.below hb⟩
def Tr.cs (t : Tr) : List Cel := t.1 :: t.2.cells
def okP (ts : List TT) : Prop := ∀ t ∈ ts, t.1.fo.ok ∧ t.1.2.cells.length ≤ 10000 ∧ t.2.fo.ok ∧ t.2.2.cells.length ≤ 10000
theorem okP.at {ts : List TT} (h : okP ts) (i : Nat) (hi : i < ts.length) : (ts.getD i ((Cel.none, .nil), (Cel.none, .nil))).1.fo.ok ∧ (ts.getD i ((Cel.none, .nil), (Cel.none, .nil))).1.2.cells.length ≤ 10000 ∧ (ts.getD i ((Cel.none, .nil), (Cel.none, .nil))).2.fo.ok ∧ (ts.getD i ((Cel.none, .nil), (Cel.none, .nil))).2.2.cells.length ≤ 10000 := by
 rw [List.getD, List.getElem?_eq_getElem hi]; exact h _ (List.getElem_mem hi)
def lefts (ts : List TT) : List (List Cel) := ts.map fun t => t.1.cs
def rights (ts : List TT) : List (List Cel) := ts.map fun t => t.2.cs
theorem lefts_snoc (ts : List TT) (j : Nat) (hj : j < ts.length) : (lefts ts).take (j + 1) = (lefts ts).take j ++ [(ts.getD j ((Cel.none, .nil), (Cel.none, .nil))).1.cs] := by
 rw [List.take_succ_eq_append_getElem (by simpa [lefts] using hj), List.getD, List.getElem?_eq_getElem hj]
 simp [lefts]
theorem rights_snoc (ts : List TT) (j : Nat) (hj : j < ts.length) : (rights ts).take (j + 1) = (rights ts).take j ++ [(ts.getD j ((Cel.none, .nil), (Cel.none, .nil))).2.cs] := by
 rw [List.take_succ_eq_append_getElem (by simpa [rights] using hj), List.getD, List.getElem?_eq_getElem hj]
 simp [rights]
set_option maxHeartbeats 4000000 in
theorem inCells_pairs (p : Option Addr) (n c : Nat) (po : Option Addr) (no co : Nat) (ts : List TT) (w : World) (hn : n = ts.length) (hl : n ≤ 900) (hok : okP ts) (hin : PairsF w p ts) :
  Calls Tryz.prog 35 #[.agg #[.slice p n c, .nilIface, .slice po no co]] w fun e w' => ∃ pl cl pr cr, e = .returned (.agg #[.slice pl n cl, .slice pr n cr, .slice none 0 0, .slice po no co]) ∧ LS w' w.heap.size pl n cl (lefts ts) ∧ LS w' w.heap.size pr n cr (rights ts) ∧ Below w.heap.size w w' := by
 obtain ⟨E, eE⟩ : ∃ E, E = w.heap.size := ⟨_, rfl⟩
 obtain ⟨OB, eOB⟩ : ∃ OB, OB = w.heap.size + 1 + 1 := ⟨_, rfl⟩
 obtain ⟨w1, e1⟩ : ∃ w1, w1 = w.alloc (.cells #[.slice p n c, .nilIface, .slice po no co] 88) := ⟨_, rfl⟩
 obtain ⟨w2, e2⟩ : ∃ w2, w2 = w1.alloc (.cells #[.slice none 0 0, .slice none 0 0, .slice none 0 0, .slice none 0 0] 40) := ⟨_, rfl⟩
 obtain ⟨w3, e3⟩ : ∃ w3, w3 = w2.alloc (.cells #[.slice none 0 0, .slice none 0 0, .slice none 0 0, .slice po no co] 40) := ⟨_, rfl⟩
 have hs1 : w1.heap.size = w.heap.size + 1 := by rw [e1]; simp
 have hs2 : w2.heap.size = w.heap.size + 1 + 1 := by rw [e2, ← hs1]; simp
 have hb1 : Below w.heap.size w w1 := by rw [e1]; exact (Below.refl _ _).alloc (Nat.le_refl _) _
 have hb2 : Below w1.heap.size w1 w2 := by rw [e2]; exact (Below.refl _ _).alloc (Nat.le_refl _) _
 have hb3 : Below w2.heap.size w2 w3 := by rw [e3]; exact (Below.refl _ _).alloc (Nat.le_refl _) _
 have hB3 : Below w.heap.size w w3 := Below.on hb1 (Below.on hb2 hb3)
 have k1 : w3.heap[E]? = some (.cells #[.slice p n c, .nilIface, .slice po no co] 88) := by rw [eE, hb3.block _ (by omega), hb2.block _ (by omega), e1]; exact heap_alloc_new _ _
 have k2 : w3.heap[E + 1]? = some (.cells #[.slice none 0 0, .slice none 0 0, .slice none 0 0, .slice none 0 0] 40) := by rw [eE, hb3.block _ (by omega), e2, ← hs1]; exact heap_alloc_new _ _
 have k3 : w3.heap[OB]? = some (.cells #[.slice none 0 0, .slice none 0 0, .slice none 0 0, .slice po no co] 40) := by rw [eOB, e3, ← hs2]; exact heap_alloc_new _ _
 have HI3 : Hid (IC w w3 OB none 0 0 ((lefts ts).take 0) none 0 0 ((rights ts).take 0) (.slice po no co)) := ⟨hB3, by simpa using LS.nil w3 _, by simpa using LS.nil w3 _, .inl rfl, k3, by omega⟩
 have HK3 : Hid (w3.heap[E]? = some (.cells #[.slice p n c, .nilIface, .slice po no co] 88) ∧ w3.heap[E + 1]? = some (.cells #[.slice none 0 0, .slice none 0 0, .slice none 0 0, .slice none 0 0] 40) ∧ E + 1 ≠ OB ∧ E ≠ OB) := ⟨k1, k2, by omega, by omega⟩
 have HOK : Hid (okP ts) := hok; have HIN : Hid (PairsF w p ts) := hin; have HN : Hid (n = ts.length) := hn
 have HE : Hid (E = w.heap.size ∧ OB = w.heap.size + 1 + 1) := ⟨eE, eOB⟩
 have x0 := cell_of_row _ _ 0 _ _ _ k1; have x1 := cell_of_row _ _ 2 _ _ _ k1; rw [eE] at x0 x1; rw [e1] at e2; rw [e2] at e3; rw [e3] at x0 x1; clear hok hin hn hs1 hs2 hb1 hb2 hb3 hB3 k1 k2 k3 e1 e2
 go_enter Tryz.func35, Tryz.ntmps35
 go_wp2_with fail; rw [← e3, ← eE]; rw [← eE] at eOB; rw [← eOB]; clear e3 eE eOB x0 x1
 go_loopw [12] (fun i wr => ∃ (j : Nat) (pl : Option Addr) (cl : Nat) (pr : Option Addr) (cr : Nat), j ≤ n ∧ i = .int .i64 j ∧ Hid (IC w wr OB pl j cl ((lefts ts).take j) pr j cr ((rights ts).take j) (.slice po no co)) ∧ Hid (wr.heap[E]? = some (.cells #[.slice p n c, .nilIface, .slice po no co] 88) ∧ wr.heap[E + 1]? = some (.cells #[.slice none 0 0, .slice none 0 0, .slice none 0 0, .slice none 0 0] 40))) (fun i _ => n - (intOf i).toNat)
 case atStart => exact ⟨0, none, 0, none, 0, Nat.zero_le _, rfl, HI3.out, HK3.out.1, HK3.out.2.1⟩
 case round =>
  obtain ⟨j, pl, cl, pr, cr, hj, rfl, HI, HK⟩ := hrel
  by_cases hlt : j < n
  ·obtain ⟨g, v, u, rfl, pc0, pc1, hfv, hfu⟩ := HIN.out j (by rw [← HN.out]; exact hlt)
   obtain ⟨o1, o2, o3, o4⟩ := HOK.out.at j (by rw [← HN.out]; exact hlt)
   obtain ⟨A, eA⟩ : ∃ A, A = ts.getD j ((Cel.none, .nil), (Cel.none, .nil)) := ⟨_, rfl⟩
   rw [← eA] at o1 o2 o3 o4 hfv hfu
   have HLS : Hid ((lefts ts).take (j + 1) = (lefts ts).take j ++ [A.1.cs] ∧ (rights ts).take (j + 1) = (rights ts).take j ++ [A.2.cs]) := by
    rw [eA]; exact ⟨lefts_snoc ts j (by rw [← HN.out]; exact hlt), rights_snoc ts j (by rw [← HN.out]; exact hlt)⟩
   obtain ⟨tv, xv, rfl⟩ := FoIn.iface (c := A.1.1) (k := A.1.2) (r := .nil) hfv; obtain ⟨tu, xu, rfl⟩ := FoIn.iface (c := A.2.1) (k := A.2.2) (r := .nil) hfu; have hbel := HI.out.bel; have y0 := (hbel.cell (World.block_lt_of_cell? _ _ pc0)).trans pc0; have y1 := (hbel.cell (World.block_lt_of_cell? _ _ pc1)).trans pc1
   obtain ⟨wA, ewA⟩ : ∃ wA, wA = wr.alloc (.cells #[.iface tv xv, .iface tu xu] 135) := ⟨_, rfl⟩
   obtain ⟨PB, ePB⟩ : ∃ PB, PB = wr.heap.size := ⟨_, rfl⟩
   have hbA : Below wr.heap.size wr wA := by rw [ewA]; exact (Below.refl _ _).alloc (Nat.le_refl _) _
   have kP : wA.heap[PB]? = some (.cells #[.iface tv xv, .iface tu xu] 135) := by rw [ePB, ewA]; exact heap_alloc_new _ _
   have kE := (hbA.block _ (Array.getElem?_eq_some_iff.1 HK.out.1).1).trans HK.out.1; have kR := (hbA.block _ (Array.getElem?_eq_some_iff.1 HK.out.2).1).trans HK.out.2; have HIA : Hid (IC w wA OB pl j cl ((lefts ts).take j) pr j cr ((rights ts).take j) (.slice po no co)) := HI.out.below hbA; obtain ⟨ox0, ox1, ox2, ox3, -⟩ := HIA.out.bx; have hp0 := cell_of_row _ _ 0 _ _ _ kP; have hp1 := cell_of_row _ _ 1 _ _ _ kP
   have HKA : Hid (wA.heap[E]? = some (.cells #[.slice (some ⟨g, 0, none⟩) n c, .nilIface, .slice po no co] 88) ∧ wA.heap[E + 1]? = some (.cells #[.slice none 0 0, .slice none 0 0, .slice none 0 0, .slice none 0 0] 40) ∧ wA.heap[PB]? = some (.cells #[.iface tv xv, .iface tu xu] 135)) := ⟨kE, kR, kP⟩
   have HC1 : Hid (∀ W, Below w.heap.size w W → Calls Tryz.prog 36 #[.iface tv xv] W fun e w' => ∃ q m cp, e = .returned (.slice q m cp) ∧ OwnC w' W.heap.size q m cp A.1.cs ∧ Below W.heap.size W w') := fun W hW => cellsOf_any A.1.1 A.1.2 _ 0 W o1 (hfv.below hW) o2
   have HC2 : Hid (∀ W, Below w.heap.size w W → Calls Tryz.prog 36 #[.iface tu xu] W fun e w' => ∃ q m cp, e = .returned (.slice q m cp) ∧ OwnC w' W.heap.size q m cp A.2.cs ∧ Below W.heap.size W w') := fun W hW => cellsOf_any A.2.1 A.2.2 _ 0 W o3 (hfu.below hW) o4
   have hj1 : j ≤ 1000 := by omega
   have HKEEP : Hid (∀ W, Below wA.heap.size wA W → W.cell? ⟨OB, 0, none⟩ = some (.slice pl j cl) ∧ W.cell? ⟨PB, 0, none⟩ = some (.iface tv xv)) := fun W hW => ⟨(hW.cell (World.block_lt_of_cell? _ _ ox0)).trans ox0, (hW.cell (World.block_lt_of_cell? _ _ hp0)).trans hp0⟩
   clear hbA hbel hfv hfu o1 o2 o3 o4 pc0 pc1 kP kE kR eA HI HK ox1 ox2 ox3 hp1; go_wp2_with fail; rw [← ewA, ← ePB]; clear ewA y0 y1 ePB; have HBD1 : Hid (Below w.heap.size w wA.drew) := HIA.out.bel.trans (Below.refl _ _).drew; obtain ⟨hO, hP⟩ := HKEEP.out _ (Below.refl _ _).drew; refine wp_region_any (by kernel_rfl) ?_; refine wpAny_tail (p := 7) (S := fun W => W.cell? ⟨OB, 0, none⟩ = some (.slice pl j cl) ∧ W.cell? ⟨PB, 0, none⟩ = some (.iface tv xv)) (by kernel_rfl) 7 _ _ _ rfl (clo_start _ _ _) (by kernel_rfl) (by kernel_rfl) ?_
   change wpAnyH _ _ _ _ _ _ _ _ wA.drew
   have hS0 : wA.drew.cell? ⟨OB, 0, none⟩ = some (.slice pl j cl) ∧ wA.drew.cell? ⟨PB, 0, none⟩ = some (.iface tv xv) := ⟨hO, hP⟩
   refine hTk (i := 0) (v := .pointer (some ⟨OB, 0, none⟩)) (some 16) (fun o ho W hSw => ?y20) (by assumption) ?_
   case y20 => cases ho; simp [execOp, go_sem, Act.eval]
   simp only [Act.put, zzA, zzB, zzC]; refine hTk (i := 1) (v := .slice pl j cl) (some 17) (fun o ho W hSw => ?y21) (by assumption) ?_
   case y21 => cases ho; obtain ⟨t0, t1⟩ := hSw; simp [execOp, go_sem, Act.eval, t0]
   simp only [Act.put, zzA, zzB, zzC]; refine hTk (i := 2) (v := .pointer (some ⟨PB, 0, none⟩)) (some 18) (fun o ho W hSw => ?y22) (by assumption) ?_
   case y22 => cases ho; simp [execOp, go_sem, Act.eval]
   simp only [Act.put, zzA, zzB, zzC]; refine hTk (i := 3) (v := .iface tv xv) (some 19) (fun o ho W hSw => ?y23) (by assumption) ?_
   case y23 => cases ho; obtain ⟨t0, t1⟩ := hSw; simp [execOp, go_sem, Act.eval, t1]
   simp only [Act.put, zzA, zzB, zzC]; refine hCallE (i := 4) (f := 36) (args := #[(.iface tv xv)]) (some 20) (by kernel_rfl) (by kernel_rfl) (by kernel_rfl) (fun o ho => ?c24) (HC1.out _ (HBD1.out)) ?k24 (fun ch w' hh => by obtain ⟨_, _, _, h, _⟩ := hh; cases h) (fun w' hh => by obtain ⟨_, _, _, h, _⟩ := hh; cases h)
   case c24 => cases ho; simp [execOp, go_sem, Act.eval]
   case k24 =>
    rintro u5 w5 ⟨q5, m5, c5, hu5, ho5, hb5⟩; obtain rfl := Ending.returned.inj hu5; have hb5' : Below wA.heap.size wA w5 := (Below.refl _ _).drew.trans hb5; have hit5 : OwnC w5 w.heap.size q5 m5 c5 A.1.cs := ho5.mono (by simpa using HIA.out.bel.size); clear hu5 ho5 hb5 hS0; refine ⟨HKEEP.out w5 hb5', ?_⟩; simp only [Act.put, zzA, zzB, zzC]; have hbx : Below wA.heap.size wA (w5.alloc (.cells #[.slice q5 m5 c5] 23)) := hb5'.alloc hb5'.size _; refine hStep (i := 5) (v := .slice (some ⟨w5.heap.size, 0, none⟩) 1 1) (w' := w5.alloc (.cells #[.slice q5 m5 c5] 23)) (some 21) (by kernel_rfl) (by kernel_rfl) (by kernel_rfl) (fun o ho => ?y25) (HKEEP.out _ hbx) ?_
    case y25 => cases ho; simp [execOp, go_sem, Act.eval]
    simp only [Act.put, zzA, zzB, zzC]
    obtain ⟨w6, e6⟩ : ∃ w6, w6 = w5.alloc (.cells #[.slice q5 m5 c5] 23) := ⟨_, rfl⟩
    have kn : w6.cell? ⟨w5.heap.size, 0, none⟩ = some (slV (q5, m5, c5)) := by rw [e6]; exact cell_of_row _ _ 0 _ _ _ (heap_alloc_new _ _)
    have hb56 : Below w5.heap.size w5 w6 := by rw [e6]; exact (Below.refl _ _).alloc (Nat.le_refl _) _
    rw [← e6] at hbx; rw [← e6]; have hI6 := HIA.out.below hbx; obtain ⟨g6, cap6, w7, hr7, hI7, hkp7, hsz7⟩ := hI6.left 33 (q5, m5, c5) A.1.cs w5.heap.size (hit5.below hb56) kn hj1; obtain ⟨kE6, kR6, kP6⟩ := HKA.out; have kE7 := hkp7 _ _ _ _ ((hbx.block _ (Array.getElem?_eq_some_iff.1 kE6).1).trans kE6) (by decide); have kR7 := hkp7 _ _ _ _ ((hbx.block _ (Array.getElem?_eq_some_iff.1 kR6).1).trans kR6) (by decide); have kP7 := hkp7 _ _ _ _ ((hbx.block _ (Array.getElem?_eq_some_iff.1 kP6).1).trans kP6) (by decide); have kO7 := hkp7 _ _ _ _ hI6.box (by decide)
    have hS7 : w7.cell? ⟨OB, 0, none⟩ = some (.slice pl j cl) ∧ w7.cell? ⟨PB, 0, none⟩ = some (.iface tv xv) := ⟨cell_of_row _ _ 0 _ _ _ kO7, cell_of_row _ _ 0 _ _ _ kP7⟩
    refine hStep (i := 6) (v := .slice (some ⟨g6, 0, none⟩) (j + 1) cap6) (w' := w7) (some 22) (by kernel_rfl) (by kernel_rfl) (by kernel_rfl) (fun o ho => ?y6) hS7 ?_
    case y6 =>
     cases ho
     exact exec_appF rfl rfl rfl hr7
    simp only [Act.put, zzA, zzB, zzC]; refine wpAnyH_done (by kernel_rfl) ?_ _; have f7 : w7.frozen? ⟨OB, 0, none⟩ = false := frozen_of_row _ _ _ _ _ kO7; have hS7o := hS7.1
    obtain ⟨wB, e8⟩ : ∃ wB, wB = w7.setCell ⟨OB, 0, none⟩ (.slice (some ⟨g6, 0, none⟩) (j + 1) cap6) := ⟨_, rfl⟩
    refine tail_store (some 23) (by rfl) (by rfl) (by rfl) (v := .pointer (some ⟨OB, 0, none⟩)) ?_ (by rfl) (by rfl) (by rfl) (w' := wB) ?_ ?_
    ·simp [execOp, go_sem, Act.eval]
    ·rw [e8]; simp [execOp, go_sem, Act.eval, Act.put, hS7o, f7]
    simp only [Act.put, zzA, zzB, zzC]; rw [← e8] at hI7; have nE : E ≠ OB := HK3.out.2.2.2; have nR : E + 1 ≠ OB := HK3.out.2.2.1
    have nP : PB ≠ OB := fun e => by rw [e, kO7] at kP7; simp at kP7
    have HI8 : Hid (IC w wB OB (some ⟨g6, 0, none⟩) (j + 1) cap6 ((lefts ts).take j ++ [A.1.cs]) pr j cr ((rights ts).take j) (.slice po no co)) := hI7
    have hk8 : wB.heap[E]? = some (.cells #[.slice (some ⟨g, 0, none⟩) n c, .nilIface, .slice po no co] 88) ∧ wB.heap[E + 1]? = some (.cells #[.slice none 0 0, .slice none 0 0, .slice none 0 0, .slice none 0 0] 40) ∧ wB.heap[PB]? = some (.cells #[.iface tv xv, .iface tu xu] 135) := by
     rw [e8, heap_setCell_other _ _ _ _ (by simpa using nE), heap_setCell_other _ _ _ _ (by simpa using nR), heap_setCell_other _ _ _ _ (by simpa using nP)]; exact ⟨kE7, kR7, kP7⟩
    have HK8 : Hid _ := hk8; clear hk8 nE nR nP hI7 e8 hS7 hS7o f7 kO7 kP7 kR7 kE7 kE6 kR6 kP6 hr7 hkp7 hsz7 hI6 kn hb56 hbx e6 hit5 hb5' hO hP; obtain ⟨ox0, ox1, -, -, -⟩ := HI8.out.bx; have hp1 := cell_of_row _ _ 1 _ _ _ HK8.out.2.2
    have HKEEP2 : Hid (∀ W, Below wB.heap.size wB W → W.cell? ⟨OB, 1, none⟩ = some (.slice pr j cr) ∧ W.cell? ⟨PB, 1, none⟩ = some (.iface tu xu)) := fun W hW => ⟨(hW.cell (World.block_lt_of_cell? _ _ ox1)).trans ox1, (hW.cell (World.block_lt_of_cell? _ _ hp1)).trans hp1⟩
    obtain ⟨pl1, epl⟩ : ∃ pl1, pl1 = some (⟨g6, 0, none⟩ : Addr) := ⟨_, rfl⟩
    rw [← epl] at HI8; have HIB : Hid (IC w wB OB pl1 (j + 1) cap6 ((lefts ts).take j ++ [A.1.cs]) pr j cr ((rights ts).take j) (.slice po no co)) := HI8; have HKB := HK8; have HBD2 : Hid (Below w.heap.size w wB.drew) := HIB.out.bel.trans (Below.refl _ _).drew
    obtain ⟨cl1, ecl⟩ : ∃ cl1, cl1 = cap6 := ⟨_, rfl⟩
    rw [← ecl] at HIB; clear HI8 HK8 ox0 ox1 hp1 HIA HKA HKEEP epl ecl; go_wp2_with fail; obtain ⟨hO, hP⟩ := HKEEP2.out _ (Below.refl _ _).drew; refine wp_region_any (by kernel_rfl) ?_; refine wpAny_tail (p := 7) (S := fun W => W.cell? ⟨OB, 1, none⟩ = some (.slice pr j cr) ∧ W.cell? ⟨PB, 1, none⟩ = some (.iface tu xu)) (by kernel_rfl) 7 _ _ _ rfl (clo_start _ _ _) (by kernel_rfl) (by kernel_rfl) ?_
    change wpAnyH _ _ _ _ _ _ _ _ wB.drew
    have hS0 : wB.drew.cell? ⟨OB, 1, none⟩ = some (.slice pr j cr) ∧ wB.drew.cell? ⟨PB, 1, none⟩ = some (.iface tu xu) := ⟨hO, hP⟩
    refine hTk (i := 0) (v := .pointer (some ⟨OB, 1, none⟩)) (some 24) (fun o ho W hSw => ?y60) (by assumption) ?_
    case y60 => cases ho; simp [execOp, go_sem, Act.eval]
    simp only [Act.put, zzA, zzB, zzC]; refine hTk (i := 1) (v := .slice pr j cr) (some 25) (fun o ho W hSw => ?y61) (by assumption) ?_
    case y61 => cases ho; obtain ⟨t0, t1⟩ := hSw; simp [execOp, go_sem, Act.eval, t0]
    simp only [Act.put, zzA, zzB, zzC]; refine hTk (i := 2) (v := .pointer (some ⟨PB, 1, none⟩)) (some 26) (fun o ho W hSw => ?y62) (by assumption) ?_
    case y62 => cases ho; simp [execOp, go_sem, Act.eval]
    simp only [Act.put, zzA, zzB, zzC]; refine hTk (i := 3) (v := .iface tu xu) (some 27) (fun o ho W hSw => ?y63) (by assumption) ?_
    case y63 => cases ho; obtain ⟨t0, t1⟩ := hSw; simp [execOp, go_sem, Act.eval, t1]
    simp only [Act.put, zzA, zzB, zzC]; refine hCallE (i := 4) (f := 36) (args := #[(.iface tu xu)]) (some 28) (by kernel_rfl) (by kernel_rfl) (by kernel_rfl) (fun o ho => ?c64) (HC2.out _ (HBD2.out)) ?k64 (fun ch w' hh => by obtain ⟨_, _, _, h, _⟩ := hh; cases h) (fun w' hh => by obtain ⟨_, _, _, h, _⟩ := hh; cases h)
    case c64 => cases ho; simp [execOp, go_sem, Act.eval]
    case k64 =>
     rintro u5 w5 ⟨q5, m5, c5, hu5, ho5, hb5⟩; obtain rfl := Ending.returned.inj hu5; have hb5' : Below wB.heap.size wB w5 := (Below.refl _ _).drew.trans hb5; have hit5 : OwnC w5 w.heap.size q5 m5 c5 A.2.cs := ho5.mono (by simpa using HIB.out.bel.size); clear hu5 ho5 hb5 hS0; refine ⟨HKEEP2.out w5 hb5', ?_⟩; simp only [Act.put, zzA, zzB, zzC]; have hbx : Below wB.heap.size wB (w5.alloc (.cells #[.slice q5 m5 c5] 23)) := hb5'.alloc hb5'.size _; refine hStep (i := 5) (v := .slice (some ⟨w5.heap.size, 0, none⟩) 1 1) (w' := w5.alloc (.cells #[.slice q5 m5 c5] 23)) (some 29) (by kernel_rfl) (by kernel_rfl) (by kernel_rfl) (fun o ho => ?y65) (HKEEP2.out _ hbx) ?_
     case y65 => cases ho; simp [execOp, go_sem, Act.eval]
     simp only [Act.put, zzA, zzB, zzC]
     obtain ⟨w6, e6⟩ : ∃ w6, w6 = w5.alloc (.cells #[.slice q5 m5 c5] 23) := ⟨_, rfl⟩
     have kn : w6.cell? ⟨w5.heap.size, 0, none⟩ = some (slV (q5, m5, c5)) := by rw [e6]; exact cell_of_row _ _ 0 _ _ _ (heap_alloc_new _ _)
     have hb56 : Below w5.heap.size w5 w6 := by rw [e6]; exact (Below.refl _ _).alloc (Nat.le_refl _) _
     rw [← e6] at hbx; rw [← e6]; have hI6 := HIB.out.below hbx; obtain ⟨g6, cap6, w7, hr7, hI7, hkp7, hsz7⟩ := hI6.right 33 (q5, m5, c5) A.2.cs w5.heap.size (hit5.below hb56) kn hj1; obtain ⟨kE6, kR6, kP6⟩ := HKB.out; have kE7 := hkp7 _ _ _ _ ((hbx.block _ (Array.getElem?_eq_some_iff.1 kE6).1).trans kE6) (by decide); have kR7 := hkp7 _ _ _ _ ((hbx.block _ (Array.getElem?_eq_some_iff.1 kR6).1).trans kR6) (by decide); have kP7 := hkp7 _ _ _ _ ((hbx.block _ (Array.getElem?_eq_some_iff.1 kP6).1).trans kP6) (by decide); have kO7 := hkp7 _ _ _ _ hI6.box (by decide)
     have hS7 : w7.cell? ⟨OB, 1, none⟩ = some (.slice pr j cr) ∧ w7.cell? ⟨PB, 1, none⟩ = some (.iface tu xu) := ⟨cell_of_row _ _ 1 _ _ _ kO7, cell_of_row _ _ 1 _ _ _ kP7⟩
     refine hStep (i := 6) (v := .slice (some ⟨g6, 0, none⟩) (j + 1) cap6) (w' := w7) (some 30) (by kernel_rfl) (by kernel_rfl) (by kernel_rfl) (fun o ho => ?y6) hS7 ?_
     case y6 =>
      cases ho
      exact exec_appF rfl rfl rfl hr7
     simp only [Act.put, zzA, zzB, zzC]; refine wpAnyH_done (by kernel_rfl) ?_ _; have f7 : w7.frozen? ⟨OB, 1, none⟩ = false := frozen_of_row _ _ _ _ _ kO7; have hS7o := hS7.1
     obtain ⟨w8, e8⟩ : ∃ w8, w8 = w7.setCell ⟨OB, 1, none⟩ (.slice (some ⟨g6, 0, none⟩) (j + 1) cap6) := ⟨_, rfl⟩
     refine tail_store (some 31) (by rfl) (by rfl) (by rfl) (v := .pointer (some ⟨OB, 1, none⟩)) ?_ (by rfl) (by rfl) (by rfl) (w' := w8) ?_ ?_
     ·simp [execOp, go_sem, Act.eval]
     ·rw [e8]; simp [execOp, go_sem, Act.eval, Act.put, hS7o, f7]
     simp only [Act.put, zzA, zzB, zzC]; rw [← e8] at hI7; have nE : E ≠ OB := HK3.out.2.2.2; have nR : E + 1 ≠ OB := HK3.out.2.2.1
     have nP : PB ≠ OB := fun e => by rw [e, kO7] at kP7; simp at kP7
     have HI8 : Hid (IC w w8 OB pl1 (j + 1) cl1 ((lefts ts).take j ++ [A.1.cs]) (some ⟨g6, 0, none⟩) (j + 1) cap6 ((rights ts).take j ++ [A.2.cs]) (.slice po no co)) := hI7
     have hk8 : w8.heap[E]? = some (.cells #[.slice (some ⟨g, 0, none⟩) n c, .nilIface, .slice po no co] 88) ∧ w8.heap[E + 1]? = some (.cells #[.slice none 0 0, .slice none 0 0, .slice none 0 0, .slice none 0 0] 40) ∧ w8.heap[PB]? = some (.cells #[.iface tv xv, .iface tu xu] 135) := by
      rw [e8, heap_setCell_other _ _ _ _ (by simpa using nE), heap_setCell_other _ _ _ _ (by simpa using nR), heap_setCell_other _ _ _ _ (by simpa using nP)]; exact ⟨kE7, kR7, kP7⟩
     have HK8 : Hid _ := hk8; clear hk8 nE nR nP hI7 e8 hS7 hS7o f7 kO7 kP7 kR7 kE7 kE6 kR6 kP6 hr7 hkp7 hsz7 hI6 kn hb56 hbx e6 hit5 hb5' hO hP; rw [← HLS.out.1, ← HLS.out.2] at HI8; go_wp2_with fail; go_roundw
     case rel => exact ⟨j + 1, pl1, cl1, some ⟨g6, 0, none⟩, cap6, by omega, by go_num, HI8, HK8.out.1, HK8.out.2.1⟩
     case measure => simp [intOf]; omega
  ·obtain rfl : j = n := by omega
   have HI' : IC w wr OB pl j cl (lefts ts) pr j cr (rights ts) (.slice po no co) := by
    have h := HI.out; rw [List.take_of_length_le (by simp [lefts, HN.out]), List.take_of_length_le (by simp [rights, HN.out])] at h; exact h
   obtain ⟨ox0, ox1, ox2, ox3, -⟩ := HI'.bx; have z0 := cell_of_row _ _ 1 _ _ _ HK.out.1
   have FIN : Hid (∀ v0 v1 v2 v3, LS (wr4 wr (E + 1) v0 v1 v2 v3) w.heap.size pl j cl (lefts ts) ∧ LS (wr4 wr (E + 1) v0 v1 v2 v3) w.heap.size pr j cr (rights ts) ∧ Below w.heap.size w (wr4 wr (E + 1) v0 v1 v2 v3)) := fun v0 v1 v2 v3 => by
    have hE := HE.out.1; exact ⟨wr4_ls HI'.lft HK.out.2 _ _ _ _, wr4_ls HI'.rgt HK.out.2 _ _ _ _, wr4_below HI'.bel (by omega) _ _ _ _⟩
   have HP : Hid (∀ v0 v1 v2 v3, (wr4 wr (E + 1) v0 v1 v2 v3).cell? ⟨E + 1, 0, none⟩ = some v0 ∧ (wr4 wr (E + 1) v0 v1 v2 v3).cell? ⟨E + 1, 1, none⟩ = some v1 ∧ (wr4 wr (E + 1) v0 v1 v2 v3).cell? ⟨E + 1, 2, none⟩ = some v2 ∧ (wr4 wr (E + 1) v0 v1 v2 v3).cell? ⟨E + 1, 3, none⟩ = some v3) := fun v0 v1 v2 v3 => wr4_box HK.out.2 _ _ _ _
   have r0 := cell_of_row _ _ 0 _ _ _ HK.out.2; have r1 := cell_of_row _ _ 1 _ _ _ HK.out.2; have r2 := cell_of_row _ _ 2 _ _ _ HK.out.2; have r3 := cell_of_row _ _ 3 _ _ _ HK.out.2
   have rf := fun k => frozen_of_row _ _ k _ _ HK.out.2
   clear HI HK HI'; go_wp2_with fail; obtain ⟨d0, d1, d2, d3⟩ := HP.out (.slice pl j cl) (.slice pr j cr) (.slice none 0 0) (.slice po no co); exact bodyPost_ret (v := .agg #[.slice pl j cl, .slice pr j cr, .slice none 0 0, .slice po no co]) (by simp [results, Tryz.results35, go_sem, d0, d1, d2, d3]) rfl ⟨pl, cl, pr, cr, rfl, FIN.out _ _ _ _⟩
theorem foA_upF {W : World} {A : Nat → Prop} {B : Nat} {F : Fo} {vs : List Value} (h : FoIn W B F vs) (hb : ∀ a, A a → a < B) : FoA A W F vs := by
 refine FoIn.imp (Nat.zero_le _) (fun b o h1 h2 => ?_) (by rw [strikeA_size]; exact Nat.le_refl _) F vs h
 cases hc : W.cell? ⟨b, o, none⟩ with
 | some v => exact strikeA_cell.2 ⟨fun ha => by have := hb _ ha; simp only at this; omega, hc⟩
 | none =>
   cases hd : (strikeA A W).cell? ⟨b, o, none⟩ with
   | none => rfl
   | some v => rw [(strikeA_cell.1 hd).2] at hc; cases hc
theorem FoA.belowF {A : Nat → Prop} {W W' : World} {F : Fo} {vs : List Value} (h : FoA A W F vs) (hb : Below W.heap.size W W') : FoA A W' F vs :=
 h.move (fun p v hA hp => ⟨hA, (hb.cell (World.block_lt_of_cell? _ _ hp)).trans hp⟩) hb.size
def T0 : Tr := (Cel.none, .nil)
def ArgT (W : World) (p : Option Addr) (ts : List Tr) : Prop := ∀ i, i < ts.length → ∃ g v, p = some ⟨g, 0, none⟩ ∧ W.cell? ⟨g, i, none⟩ = some v ∧ FoIn W 0 (ts.getD i T0).fo [v]
theorem ArgT.below {w w' : World} {p : Option Addr} {ts : List Tr} (h : ArgT w p ts) (hb : Below w.heap.size w w') : ArgT w' p ts := fun i hi => by
 obtain ⟨g, v, e, h1, h2⟩ := h i hi; exact ⟨g, v, e, (hb.cell (World.block_lt_of_cell? _ _ h1)).trans h1, h2.below hb⟩
structure AT (w0 w : World) (cb : Nat) (p : Option Addr) (n c : Nat) (V : List Value) (ts : List Tr) (ops fr : Value) : Prop where
 bel : Below cb w0 w
 len : n = V.length ∧ n = ts.length
 row : w.ownsRow (cb + 1) 58 1 (.slice p n c) n V
 box : w.heap[cb]? = some (.cells #[ops, .slice p n c, fr] 85)
 tre : ∀ i, i < n → FoA (fun k => k = cb ∨ some k = Value.ownBlock (.slice p n c)) w (ts.getD i T0).fo [V.getD i .nilIface]
section
variable {w0 w : World} {cb : Nat} {p : Option Addr} {n c : Nat} {V : List Value} {ts : List Tr} {ops fr : Value}
theorem AT.lt (H : AT w0 w cb p n c V ts ops fr) : cb < w.heap.size := (Array.getElem?_eq_some_iff.1 H.box).1
theorem AT.rowT (H : AT w0 w cb p n c V ts ops fr) {g : Nat} (hg : Value.ownBlock (.slice p n c) = some g) : ∃ cur fz, w.heap[g]? = some (.cells cur 58 fz) ∧ cb + 1 ≤ g ∧ g < w.heap.size := by
 rcases H.row.2 with ⟨h', _⟩ | ⟨g', cap, cur, hv, hB, hh, r⟩
 ·rw [h'] at hg; cases hg
 ·rw [hv] at hg
  cases hg
  exact ⟨cur, _, hh, hB, (Array.getElem?_eq_some_iff.1 hh).1⟩
theorem AT.below (H : AT w0 w cb p n c V ts ops fr) {w' : World} (hb : Below w.heap.size w w') : AT w0 w' cb p n c V ts ops fr :=
 ⟨⟨hb.os.trans H.bel.os, hb.tape.trans H.bel.tape, hb.output.trans H.bel.output, Nat.le_trans H.bel.size hb.size, fun k hk => (hb.block k (by have := H.lt; omega)).trans (H.bel.block k hk)⟩, H.len, row_below H.row hb, (hb.block _ H.lt).trans H.box, fun i hi => (H.tre i hi).belowF hb⟩
theorem AT.args (H : AT w0 w cb p n c V ts ops fr) : ArgT w p ts := fun i hi => by
 have hn : i < n := by rw [H.len.2]; exact hi
 obtain ⟨g, cap, hv, hb, hg⟩ := H.row.form (by omega); simp only [Value.slice.injEq, true_and] at hv; obtain ⟨rfl, rfl⟩ := hv; refine ⟨g, V.getD i .nilIface, rfl, ?_, (H.tre i hn).foIn⟩; rw [H.row.cellAt i (by omega), List.getD, List.getElem?_eq_getElem (by rw [← H.len.1]; exact hn)]
 rfl
theorem getD_appL {α : Type} (a b : List α) (i : Nat) (d : α) (h : i < a.length) : (a ++ b).getD i d = a.getD i d := by simp [List.getD, List.getElem?_append_left h]
theorem getD_lastL {α : Type} (a : List α) (x d : α) (i : Nat) (h : i = a.length) : (a ++ [x]).getD i d = x := by subst h; simp [List.getD]
theorem AT.app (H : AT w0 w cb p n c V ts ops fr) (ty : TypeId) (A : Tr) (v : Value) (e : Nat) (hf : FoA (fun k => k = cb ∨ some k = Value.ownBlock (.slice p n c)) w A.fo [v]) (he : w.cell? ⟨e, 0, none⟩ = some v) (h1 : v.oneCell' = true) (hm : n ≤ 1000) :
  ∃ g cap w', (Builtin.append_ #[83, 83] ty #[.slice p n c, .slice (some ⟨e, 0, none⟩) 1 1]).run Tryz.prog w = .ok (.slice (some ⟨g, 0, none⟩) (n + 1) cap) w' ∧ AT w0 (w'.setCell ⟨cb, 1, none⟩ (.slice (some ⟨g, 0, none⟩) (n + 1) cap)) cb (some ⟨g, 0, none⟩) (n + 1) cap (V ++ [v]) (ts ++ [A]) ops fr ∧ w'.heap[cb]? = some (.cells #[ops, .slice p n c, fr] 85) := by
 obtain ⟨i0, hi, hz0, hz1, hz2⟩ := info_parts infoTerm; have hlt := H.lt; obtain ⟨g, cap, w', hr, hown', hg, hat, hlg⟩ := run_append_lies (P := Tryz.prog) w 83 ty (cb + 1) 58 i0 .nilIface 1 16 Tryz.underlying83 hi hz0 hz1 hz2 rfl (by decide) (.slice p n c) n V H.row ⟨e, 0, none⟩ 1 1 [v] rfl
  (fun j u hj => by
    cases j with
    | zero => simp at hj; subst hj; rw [Addr.add_lit]; exact he
    | succ j => simp at hj) (fun u hu => by rw [List.mem_singleton.1 hu]; exact h1) (by decide) (by unfold maxLen; omega) (by omega) (by omega) _ rfl
 have hbx : w'.heap[cb]? = some (.cells #[ops, .slice p n c, fr] 85) := by
  refine (hg.block cb hlt (fun e => ?_)).trans H.box; obtain ⟨_, _, _, h2, _⟩ := H.rowT e.symm
  omega
 have hgc : g ≠ cb := by
  rcases hat with h | h
  ·obtain ⟨_, _, _, h2, _⟩ := H.rowT h
   omega
  ·omega
 have hmv : ∀ F vs, FoA (fun k => k = cb ∨ some k = Value.ownBlock (.slice p n c)) w F vs → FoA (fun k => k = cb ∨ some k = Value.ownBlock (.slice (some ⟨g, 0, none⟩) (n + 1) cap)) (w'.setCell ⟨cb, 1, none⟩ (.slice (some ⟨g, 0, none⟩) (n + 1) cap)) F vs := fun F vs hF => by
  refine hF.move (fun q u hA hq => ?_) (by simpa using hg.size); have hql := World.block_lt_of_cell? _ _ hq
  have h1 : q.block ≠ cb := fun e => hA (.inl e)
  have h2 : some q.block ≠ Value.ownBlock (.slice p n c) := fun e => hA (.inr e)
  refine ⟨fun h => ?_, ?_⟩
  ·rcases h with h | h
   ·exact h1 h
   ·have hqg : q.block = g := by simpa [Value.ownBlock] using h
    rcases hat with h' | h'
    ·exact h2 (by rw [hqg]; exact h'.symm)
    ·omega
  ·rw [World.cell?_setCell_other _ _ _ _ (fun e => h1 (by rw [← e])), World.cell?_of_block (hg.block _ hql h2)]
   exact hq
 refine ⟨g, cap, w', hr, ⟨?_, ⟨by simp [H.len.1], by simp [H.len.2]⟩, ?_, ?_, fun i hi => ?_⟩, hbx⟩
 ·have h0 := H.bel
  refine Below.setCell ⟨hg.os.trans h0.os, hg.tape.trans h0.tape, hg.output.trans h0.output, Nat.le_trans h0.size hg.size, fun k hk => (hg.block k (by omega) (fun e => ?_)).trans (h0.block k hk)⟩ (Nat.le_refl _) _; obtain ⟨_, _, _, h2, _⟩ := H.rowT e.symm
  omega
 ·refine hown'.kept (row := some cb) ⟨rfl, rfl, rfl, by simp, fun k hk hne => heap_setCell_other _ _ _ _ (fun e => hne (by simp at e; rw [e]))⟩ (.inr (fun e => hgc (by simpa [Value.ownBlock] using e)))
 ·rw [heap_setCell_same _ _ _ _ _ _ hbx]; rfl
 ·rcases Nat.lt_or_ge i n with hin | hin
  ·have h := hmv _ _ (H.tre i hin)
   rw [getD_appL _ _ _ _ (by rw [← H.len.2]; exact hin), getD_appL _ _ _ _ (by rw [← H.len.1]; exact hin)]; exact h
  ·obtain rfl : i = n := by omega
   have h := hmv _ _ hf; rw [getD_lastL ts A T0 i H.len.2, getD_lastL V v .nilIface i H.len.1]; exact h
end
theorem keepB_snoc2 {α : Type} (f : α → α → Bool) (x y : α) : ∀ (l : List α) (p : α), keepB f p (l ++ [x, y]) = if f y x then keepB f p (l ++ [x]) else keepB f p (l ++ [x]) ++ [y]
 | [], p => by
   simp only [List.nil_append, keepB]
   cases f x p <;> cases f y x <;> simp
 | z :: l, p => by
   simp only [List.cons_append, keepB]; have ih := keepB_snoc2 f x y l z; rw [ih]
   cases f z p <;> cases f y x <;> simp
theorem compB_snoc2 {α : Type} (f : α → α → Bool) (x y : α) (l : List α) : compB f (l ++ [x, y]) = if f y x then compB f (l ++ [x]) else compB f (l ++ [x]) ++ [y] := by
 cases l with
 | nil => simp only [List.nil_append, compB, keepB]; cases f y x <;> simp
 | cons z l =>
   simp only [List.cons_append, compB]; rw [keepB_snoc2]
   cases f y x <;> simp
theorem compB_take {α : Type} (f : α → α → Bool) (d : List α) (m : Nat) (h : m + 1 < d.length) : compB f (d.take (m + 2)) = if f d[m + 1] d[m] then compB f (d.take (m + 1)) else compB f (d.take (m + 1)) ++ [d[m + 1]] := by
 have e1 : d.take (m + 1) = d.take m ++ [d[m]] := by rw [List.take_add_one, List.getElem?_eq_getElem (by omega)]; rfl
 have e2 : d.take (m + 2) = d.take m ++ [d[m], d[m + 1]] := by
  have e3 : d.take (m + 1 + 1) = d.take (m + 1) ++ [d[m + 1]] := by rw [List.take_add_one, List.getElem?_eq_getElem h]; rfl
  rw [show d.take (m + 2) = _ from e3, e1, List.append_assoc]; rfl
 rw [e1, e2, compB_snoc2]
theorem compB_map {α β : Type} (h : α → β) (f : α → α → Bool) (g : β → β → Bool) (hf : ∀ a b, f a b = g (h a) (h b)) (l : List α) : (compB f l).map h = compB g (l.map h) := by
 have hk : ∀ (r : List α) (p : α), (keepB f p r).map h = keepB g (h p) (r.map h) := fun r => by
  induction r with
  | nil => intro p; rfl
  | cons x r ih => intro p; simp only [keepB, List.map_cons, hf]; cases g (h x) (h p) <;> simp [ih]
 cases l with
 | nil => rfl
 | cons x r => simp [compB, hk]
def fE (a b : Value × (Cel × Fo)) : Bool := eqT (a.2, b.2)
structure CF (W0 : World) (blk : Nat) (d : List (Value × (Cel × Fo))) (m kk : Nat) (W : World) : Prop where
 gr : W0.grownBy W (some blk)
 gl : blk < W0.heap.size
 len : (compB fE (d.take m)).length = kk
 le : m ≤ d.length
 row : ∀ i, i < d.length → W.cell? ⟨blk, i, none⟩ = some ((compB fE (d.take m) ++ d.drop kk).map (·.1))[i]! ∧ W.frozen? ⟨blk, i, none⟩ = false
theorem compB_take_le (d : List (Value × (Cel × Fo))) (m : Nat) : (compB fE (d.take m)).length ≤ m :=
 Nat.le_trans (compB_sub _ _).length_le (by simp; omega)
theorem compB_all (d : List (Value × (Cel × Fo))) : ∀ m, m < d.length → (∀ j (h : j + 1 < d.length), j < m → fE d[j + 1] d[j] = false) → compB fE (d.take (m + 1)) = d.take (m + 1)
 | 0, h, _ => by
   cases d with
   | nil => simp at h
   | cons x r => simp [compB, keepB]
 | m + 1, h, hk => by
   rw [compB_take fE d m h, hk m h (by omega), compB_all d m (by omega) fun j hj hl => hk j hj (by omega)]; simp only [Bool.false_eq_true, if_false]; rw [List.take_add_one (i := m + 1), List.getElem?_eq_getElem h]; rfl
theorem getB (l : List (Value × (Cel × Fo))) {i : Nat} (h : i < l.length) : (l.map (·.1))[i]! = l[i].1 := by simp [h]
theorem grown2 {w w1 w2 : World} {g : Nat} (h : w.grownBy w1 (some g)) (k : w1.grownBy w2 (some g)) : w.grownBy w2 (some g) := ⟨k.os.trans h.os, k.tape.trans h.tape, k.output.trans h.output, Nat.le_trans h.size k.size, fun b hb hne => (k.block b (Nat.lt_of_lt_of_le hb h.size) hne).trans (h.block b hb hne)⟩
theorem CF.at_ {W0 : World} {blk : Nat} {d : List (Value × (Cel × Fo))} {m kk : Nat} {W : World} (h : CF W0 blk d m kk W) {i : Nat} (hi : i < d.length) (hk : kk ≤ i) : W.cell? ⟨blk, i, none⟩ = some d[i].1 := by
 rw [(h.row i hi).1]; have hl := h.len
 have : i < (compB fE (d.take m) ++ d.drop kk).length := by simp; omega
 rw [getB _ this, List.getElem_append_right (by omega)]; simp only [List.getElem_drop]
 congr 3; omega
theorem CF.on {W0 : World} {blk : Nat} {d : List (Value × (Cel × Fo))} {m kk : Nat} {W W' : World} (h : CF W0 blk d m kk W) (hb : Below W.heap.size W W') : CF W0 blk d m kk W' :=
 have hl : blk < W.heap.size := Nat.lt_of_lt_of_le h.gl h.gr.size
 ⟨grown2 h.gr ⟨hb.os, hb.tape, hb.output, hb.size, fun k hk _ => hb.block k hk⟩, h.gl, h.len, h.le, fun i hi => ⟨(hb.cell (p := ⟨blk, i, none⟩) hl).trans (h.row i hi).1, (World.frozen?_of_block (a := ⟨blk, i, none⟩) (hb.block blk hl)).trans (h.row i hi).2⟩⟩
theorem CF.skip {W0 : World} {blk : Nat} {d : List (Value × (Cel × Fo))} {m kk : Nat} {W : World} (h : CF W0 blk d (m + 1) kk W) (hm : m + 1 < d.length) (hf : fE d[m + 1] d[m] = true) : CF W0 blk d (m + 2) kk W := by
 have e : compB fE (d.take (m + 2)) = compB fE (d.take (m + 1)) := by rw [compB_take fE d m hm, hf]; rfl
 exact ⟨h.gr, h.gl, by rw [e]; exact h.len, by omega, by rw [e]; exact h.row⟩
theorem CF.keep {W0 : World} {blk : Nat} {d : List (Value × (Cel × Fo))} {m kk : Nat} {W : World} (h : CF W0 blk d (m + 1) kk W) (hm : m + 1 < d.length) (hf : fE d[m + 1] d[m] = false) : CF W0 blk d (m + 2) (kk + 1) (W.setCell ⟨blk, kk, none⟩ d[m + 1].1) := by
 have e : compB fE (d.take (m + 2)) = compB fE (d.take (m + 1)) ++ [d[m + 1]] := by rw [compB_take fE d m hm, hf]; rfl
 have hl := h.len; have hkm := compB_take_le d (m + 1)
 have hk : kk < d.length := by omega
 have hd : d.drop kk = d[kk] :: d.drop (kk + 1) := (List.drop_eq_getElem_cons hk)
 refine ⟨grown2 h.gr ⟨rfl, rfl, rfl, by simp, fun b hb hne => Below.heap_setCell _ _ _ _ (fun e => hne (by rw [e]))⟩, h.gl, by rw [e]; simp [hl], by omega, fun i hi => ⟨?_, by rw [World.frozen?_setCell]; exact (h.row i hi).2⟩⟩
 have l1 : i < (compB fE (d.take (m + 2)) ++ d.drop (kk + 1)).length := by rw [e]; simp; omega
 have l2 : i < (compB fE (d.take (m + 1)) ++ d.drop kk).length := by simp; omega
 rw [getB _ l1]
 by_cases ei : i = kk
 ·subst ei
  rw [World.cell?_setCell_same _ _ _ (h.row i hi).1]
  congr 2
  simp only [e, List.append_assoc]; rw [List.getElem_append_right (by omega)]
  simp [hl]
 ·rw [World.cell?_setCell_other _ _ _ _ (fun h' => ei (by have := congrArg Addr.off h'; simpa using this.symm)), (h.row i hi).1, getB _ l2]
  congr 2
  simp only [e, List.append_assoc]
  by_cases hlt : i < kk
  ·rw [List.getElem_append_left (by omega), List.getElem_append_left (by omega)]
  ·rw [List.getElem_append_right (by omega), List.getElem_append_right (by omega)]
   simp only [hl, hd]
   obtain ⟨q, hq⟩ : ∃ q, i - kk = q + 1 := ⟨i - kk - 1, by omega⟩
   simp only [hq, List.singleton_append, List.getElem_cons_succ]
theorem CF.start {W0 W : World} {blk : Nat} {d : List (Value × (Cel × Fo))} {k : Nat} (hg : W0.grownBy W (some blk)) (hgl : blk < W0.heap.size) (hk : k + 1 < d.length) (hrow : ∀ i, (h : i < d.length) → W.cell? ⟨blk, i, none⟩ = some d[i].1 ∧ W.frozen? ⟨blk, i, none⟩ = false)
  (ha : ∀ j (h : j + 1 < d.length), j < k → fE d[j + 1] d[j] = false) (hf : fE d[k + 1] d[k] = true) : CF W0 blk d (k + 2) (k + 1) W := by
 have e : compB fE (d.take (k + 2)) = d.take (k + 1) := by rw [compB_take fE d k hk, hf, compB_all d k (by omega) ha]; rfl
 have el : (d.take (k + 1)).length = k + 1 := by simp; omega
 refine ⟨hg, hgl, by rw [e, el], by omega, fun i hi => ?_⟩; rw [e, List.take_append_drop, getB _ hi]; exact hrow i hi
end
section
open Go Go.RowKit Go.Sort Go.Shelf
theorem ltO_same {x x' y : Cel} (h : keyC x = keyC x') : ltO x y = ltO x' y := by rw [Bool.eq_iff_iff, ltO_iff_key, ltO_iff_key, h]
theorem op_ntrans (x y z : Cel) (h1 : ltO x y = false) (h2 : ltO y z = false) : ltO x z = false := by
 by_cases e : keyC x = keyC y
 ·rw [ltO_same e]; exact h2
 ·have h3 := ltO_tri e h1
  cases h : ltO x z with
  | false => rfl
  | true => rw [ltO_trans h3 h] at h2; cases h2
abbrev RowE (w : World) (B blk : Nat) := { x : RC × Cel // Fits w B x.1 x.2 ∧ (0 < x.1.2.2.2.1 → x.1.2.2.1 ≠ some ⟨blk, 0, none⟩) }
def encE {w : World} {B blk : Nat} (x : RowE w B blk) : List Value := roV x.1.1
def cfE {w : World} {B blk : Nat} (x y : RowE w B blk) : Int := opCmp x.1.2 y.1.2
theorem e_swo {w : World} {B blk : Nat} : SWO (ltOf (cfE (w := w) (B := B) (blk := blk))) where
 irrefl x := ltO_irrefl x.1.2
 trans x y z h1 h2 := ltO_trans (x := x.1.2) (y := y.1.2) (z := z.1.2) h1 h2
 ntrans x y z h1 h2 := op_ntrans x.1.2 y.1.2 z.1.2 h1 h2
theorem grownBy_sortE {w W : World} {B blk g n : Nat} {os : Array Obj} (d : Array (RowE w B blk)) [Inhabited (RowE w B blk)] : W.grownBy (sortWorldK encE 3 W g 0 n d os) (some g) := by
 refine ⟨rfl, rfl, rfl, by simp [sortWorldK, putRowK], fun k hk hne => ?_⟩; rw [sortWorldK, heap_grow_old _ _ (by simpa [putRowK] using hk)]
 have : g ≠ k := fun e => hne (by rw [e])
 simp [putRowK, putRow, mapBlock, Sort.ahead, Array.getElem?_modify, this]
theorem ownT_grown {w w' : World} {B blk : Nat} {p : Option Addr} {n c : Nat} {ys : List Int} (h : OwnT w B p n c ys) (hg : w.grownBy w' (some blk)) (hne : 0 < n → p ≠ some ⟨blk, 0, none⟩) : OwnT w' B p n c ys := by
 refine h.other hg.size (fun g hn e => ?_); obtain ⟨g', e', _, hlt, _⟩ := h.2 hn
 have eg : g = g' := by rw [e] at e'; exact congrArg Addr.block (Option.some.inj e')
 subst eg; exact hg.block g hlt (fun h' => hne hn (by rw [e, Option.some.inj h']))
theorem isAggOp (w : World) : (isAgg 120).run Tryz.prog w = .ok true w := by kernel_rfl
theorem sizeOfOp (w : World) : (Go.sizeOf 120).run Tryz.prog w = .ok 3 w := by kernel_rfl
theorem cmpLaysOp {w : World} {B g : Nat} [Inhabited (RowE w B g)] (size : Nat) : CmpLays Tryz.prog 55 #[] (encE (w := w) (B := B) (blk := g)) 3 cfE g 0 size w := fun m os dk _ x y => by
 obtain ⟨⟨rx, cx⟩, fx, nx⟩ := x; obtain ⟨⟨ry, cy⟩, fy, ny⟩ := y; have hg : w.grownBy (sortWorldK encE 3 w g 0 m dk os) (some g) := grownBy_sortE dk
 have bx := (ownT_grown fx.2.2 hg nx)
 have bY := (ownT_grown fy.2.2 hg ny)
 have h := compareOps_any rx.1 rx.2.1 ry.1 ry.2.1 rx.2.2.1 ry.2.2.1 rx.2.2.2.1 ry.2.2.2.1 rx.2.2.2.2 ry.2.2.2.2 cx.2.2 cy.2.2 (sortWorldK encE 3 w g 0 m dk os) fx.2.2.len fy.2.2.len bx.bin bY.bin
 have e1 : ((rx.1, rx.2.1, cx.2.2) : Cel) = cx := by rw [fx.1, fx.2.1]
 have e2 : ((ry.1, ry.2.1, cy.2.2) : Cel) = cy := by rw [fy.1, fy.2.1]
 rw [e1, e2] at h; exact h
theorem heap_sortedK {w : World} {g n : Nat} {os : Array Obj} {cur : Array Value} {e : TypeId} {fr : Nat × Nat} (F : Array Value) (hb : w.heap[g]? = some (.cells cur e fr)) :
  (grow (putRow id (Sort.ahead w n) g 0 F) os).heap[g]? = some (.cells (putCells id 0 F cur) e fr) := by
 have hg : g < w.heap.size := (Array.getElem?_eq_some_iff.1 hb).1; rw [heap_grow_old _ _ (by simpa using hg)]
 simp [putRow, mapBlock, Sort.ahead, Array.getElem?_modify, hb, onCells]
theorem take_putCellsK (cur F : Array Value) (h : F.size ≤ cur.size) : (putCells id 0 F cur).toList.take F.size = F.toList := by
 apply List.ext_getElem?
 intro j
 by_cases hj : j < F.size
 ·rw [List.getElem?_take_of_lt hj, Array.getElem?_toList]
  simp [putCells, hj, show j < cur.size by omega]
 ·rw [List.getElem?_take_eq_none (by omega), List.getElem?_eq_none (by simp; omega)]
theorem flat_list {w : World} {B g : Nat} [Inhabited (RowE w B g)] (d : Array (RowE w B g)) : (flatK encE 3 d).toList = flatO (d.toList.map (fun x => x.1.1)) := by
 apply List.ext_getElem?
 intro j
 by_cases hj : j < d.size * 3
 ·have hi : j / 3 < d.size := by omega
  have h := flatO_at (d.toList.map (fun x => x.1.1)) (j / 3) (by simpa using hi)
  have hd : (d.toList.map (fun x => x.1.1)).getD (j / 3) RC.zero = (d[j / 3]!).1.1 := by simp [List.getD, hi]
  rw [hd] at h; have hf := get_flatK encE 3 d j hj
  have hs : j < (flatK (encE (w := w) (B := B) (blk := g)) 3 d).size := by simpa using hj
  rw [Array.getElem?_toList, Array.getElem?_eq_getElem hs]; rw [getElem!_pos _ j hs] at hf; rw [hf]; obtain ⟨h0, h1, h2⟩ := h
  have h3 : j % 3 = 0 ∨ j % 3 = 1 ∨ j % 3 = 2 := by omega
  rcases h3 with h3 | h3 | h3
  ·rw [show j / 3 * 3 = j by omega] at h2
   rw [h2, h3]; simp [encE, roV]
  ·rw [show j / 3 * 3 + 1 = j by omega] at h0
   rw [h0, h3]; simp [encE, roV]
  ·rw [show j / 3 * 3 + 2 = j by omega] at h1
   rw [h1, h3]; simp [encE, roV]
 ·rw [List.getElem?_eq_none (by simp; omega), List.getElem?_eq_none (by rw [flatO_len]; simp; omega)]
theorem sortOps_any (w : World) (B g n cap : Nat) (cs : List Cel) (h : OwnO w B (some ⟨g, 0, none⟩) n cap cs) (hn : 0 < n) (hl : n ≤ 100000) :
  Calls Tryz.prog 54 #[.slice (some ⟨g, 0, none⟩) n cap, .func (.func 55) #[] #[]] w fun e w' => e = .returned (.tuple #[]) ∧
   ∃ ds : List Cel, ds.Perm cs ∧ ds.Pairwise (fun x y => ltO y x = false) ∧ OwnO w' B (some ⟨g, 0, none⟩) n cap ds ∧ w.grownBy w' (some g) := by
 obtain ⟨hnc, rs, hrl, hr, hf, ha⟩ := h
 have mk : ∀ i, i < n → Fits w B (rs.getD i RC.zero) (cs.getD i Cel.none) ∧ (0 < (rs.getD i RC.zero).2.2.2.1 → (rs.getD i RC.zero).2.2.1 ≠ some ⟨g, 0, none⟩) := fun i hi => ⟨hf i (by omega), fun hp => ha.1 i (by omega) hp⟩
 obtain ⟨L, hL⟩ : ∃ L : List (RowE w B g), L = (List.range n).attach.map (fun i => ⟨(rs.getD i.1 RC.zero, cs.getD i.1 Cel.none), mk i.1 (List.mem_range.1 i.2)⟩) := ⟨_, rfl⟩
 have hLr : L.map (fun x => x.1.1) = rs := by
  rw [hL, List.map_map]
  apply List.ext_getElem (by simp; omega)
  intro i h1 h2
  simp [List.getD, h2]
 have hLc : L.map (fun x => x.1.2) = cs := by
  rw [hL, List.map_map]
  apply List.ext_getElem (by simp; omega)
  intro i h1 h2
  simp [List.getD, h2]
 have hLn : L.length = n := by have := congrArg List.length hLc; simp at this; omega
 haveI : Inhabited (RowE w B g) := ⟨L[0]'(by omega)⟩
 obtain ⟨cur, hcap, hgB, hgh, hcap1, hcap2, hcur, hrow⟩ : ∃ cur : Array Value, True ∧ B ≤ g ∧ w.heap[g]? = some (.cells cur 120 (0, 0)) ∧ n ≤ cap ∧ cap ≤ maxLen ∧ cur.size = cap * 3 ∧ cur.toList.take (n * 3) = flatO rs := by
  rcases hr.2 with ⟨h', _⟩ | ⟨g', cap', cur, hv, hB, hg', h1, h2, h3, h4⟩
  ·simp at h'
  ·simp only [Value.slice.injEq, Option.some.injEq, Addr.mk.injEq, and_true, true_and] at hv
   obtain ⟨rfl, rfl⟩ := hv; exact ⟨cur, trivial, hB, hg', h1, h2, h3, h4⟩
 have hH : HoldsK encE 3 w g 0 L.toArray := fun j hj => by
  simp only [size_flatK, List.size_toArray] at hj; have hfl := flat_list (w := w) (B := B) (g := g) L.toArray; simp only [hLr] at hfl; refine ⟨?_, by simp [World.frozen?, hgh]⟩
  have hs : j < (flatK (encE (w := w) (B := B) (blk := g)) 3 L.toArray).size := by simpa using hj
  rw [Nat.zero_add, getElem!_pos _ j hs]; have h1 := hr.cellAt j (by omega); rw [h1, ← hfl, Array.getElem?_toList, Array.getElem?_eq_getElem hs]
  rfl
 have eg : ∀ args w, (callFunc 55 args).run Tryz.prog w = .ok (.enter 55 args) w := enters_of Tryz.func55 (by kernel_rfl) rfl; have hcon := AnyQ.slices_SortFunc Tryz.sortOpL 3 isAggOp sizeOfOp (encE (w := w) (B := B) (blk := g)) (fun _ => rfl) (fun x v hv => by simp [encE, roV] at hv; rcases hv with rfl | rfl | rfl <;> rfl) cfE e_swo 55 #[] g 0 cap L.toArray w eg (cmpLaysOp _) hH (Array.getElem?_eq_some_iff.1 hgh).1 (by simp; omega); simp only [List.size_toArray, hLn] at hcon; refine hcon.mono ?_; rintro e w' ⟨rfl, d', m, os, hp, hs, rfl⟩
 have hsz : d'.size = n := by have := hp.1; simp at this; omega
 have hperm : d'.toList.Perm L := by
  have := hp.2.2; rw [Array.extract_eq_self_of_le (by omega), Array.extract_eq_self_of_le (by simp; omega)] at this
  simpa using this
 have hg : w.grownBy (sortWorldK encE 3 w g 0 m d' os) (some g) := grownBy_sortE d'; refine ⟨rfl, d'.toList.map (fun x => x.1.2), ?_, ?_, ⟨by simp [hsz], d'.toList.map (fun x => x.1.1), by simp, ⟨?_, .inr ⟨g, cap, _, rfl, hgB, heap_sortedK _ hgh, hcap1, hcap2, ?_, ?_⟩⟩, fun i hi => ?_, fun i hi hp0 => ?_, ?_⟩, hg⟩
 ·rw [← hLc]; exact hperm.map _
 ·rw [List.pairwise_map, List.pairwise_iff_getElem]
  intro i j h1 h2 hij
  have h := hs i j (Nat.zero_le _) hij (by simpa [hsz] using h2)
  have e1 : d'[i]! = d'.toList[i] := by simp [show i < d'.size by simpa using h1]
  have e2 : d'[j]! = d'.toList[j] := by simp [show j < d'.size by simpa using h2]
  rw [e1, e2] at h; exact h
 ·rw [flatO_len]; simp [hsz]
 ·simp [putCells, hcur]
 ·have h1 := take_putCellsK cur (flatK encE 3 d') (by simp; omega)
  rw [flat_list] at h1; simp only [size_flatK, hsz] at h1; exact h1
 ·have hi' : i < d'.toList.length := by simpa using hi
  have e1 : (d'.toList.map (fun x => x.1.1)).getD i RC.zero = (d'.toList[i]).1.1 := by simp [List.getD, show i < d'.size by simpa using hi']
  have e2 : (d'.toList.map (fun x => x.1.2)).getD i Cel.none = (d'.toList[i]).1.2 := by simp [List.getD, show i < d'.size by simpa using hi']
  rw [e1, e2]; have hx := (d'.toList[i]).2; exact ⟨hx.1.1, hx.1.2.1, ownT_grown hx.1.2.2 hg hx.2⟩
 ·have hi' : i < d'.toList.length := by simpa using hi
  have e1 : (d'.toList.map (fun x => x.1.1)).getD i RC.zero = (d'.toList[i]).1.1 := by simp [List.getD, show i < d'.size by simpa using hi']
  rw [e1] at hp0 ⊢; exact (d'.toList[i]).2.2 hp0
 ·have hpw : rs.Pairwise (fun a b : RC => 0 < a.2.2.2.1 → 0 < b.2.2.2.1 → a.2.2.1 ≠ b.2.2.1) := by
   rw [List.pairwise_iff_getElem]
   intro i j h1 h2 hij h3 h4
   have := ha.2 i j h1 h2 (by omega); simp only [List.getD, List.getElem?_eq_getElem h1, List.getElem?_eq_getElem h2, Option.getD_some] at this; exact this h3 h4
  have hpr : (d'.toList.map (fun x => x.1.1)).Perm rs := by rw [← hLr]; exact hperm.map _
  have hpw' := hpr.symm.pairwise hpw (fun h a b => (h b a).symm)
  intro i j h1 h2 hij h3 h4
  have key : ∀ i j (h1 : i < (d'.toList.map (fun x => x.1.1)).length) (h2 : j < (d'.toList.map (fun x => x.1.1)).length), i < j → 0 < ((d'.toList.map (fun x => x.1.1)).getD i RC.zero).2.2.2.1 → 0 < ((d'.toList.map (fun x => x.1.1)).getD j RC.zero).2.2.2.1 → ((d'.toList.map (fun x => x.1.1)).getD i RC.zero).2.2.1 ≠ ((d'.toList.map (fun x => x.1.1)).getD j RC.zero).2.2.1 := fun i j h1 h2 hij => by
   have := List.pairwise_iff_getElem.1 hpw' i j h1 h2 hij; simp only [List.getD, List.getElem?_eq_getElem h1, List.getElem?_eq_getElem h2, Option.getD_some]; exact this
  rcases Nat.lt_or_ge i j with h | h
  ·exact key i j h1 h2 h h3 h4
  ·exact (key j i h2 h1 (by omega) h4 h3).symm
end
end Go.Proofs.YtdmmchoicngblaaGreatDoor
