/- walk, variablesOf. Own work of the verifier. -/
import Derived.Test.YtopdhjnpcpkmlaaVars1
namespace Go.Proofs.Ytopdhjnpcpkmlaa
open Go Go.RowKit Go.Maps
set_option linter.unusedVariables false

theorem argsLeaf_any (t : TypeId) (x : Value) (w : World) (ht : t = 67 ∨ t = 107 ∨ t = 76) :
    Calls Try.prog 74 #[.iface t x] w fun e w' => e = .returned (.slice none 0 0) ∧ w' = w := by
  have n1 := noComp_var
  have n2 := noComp_num
  have n3 := noComp_atom
  rcases ht with rfl | rfl | rfl
  all_goals
    go_enter Try.func74, Try.ntmps74
    go_wp2_with fail
    go_ret
    exact ⟨rfl, rfl⟩
theorem argsComp_any (b g q : Nat) (w : World) (h : w.cell? ⟨b, 1, none⟩ = some (.slice (some ⟨g, 0, none⟩) q q)) :
    Calls Try.prog 74 #[.iface 100 (.pointer (some ⟨b, 0, none⟩))] w fun e w' => e = .returned (.slice (some ⟨g, 0, none⟩) q q) ∧ w' = w := by
  have n1 := isComp
  go_enter Try.func74, Try.ntmps74
  go_wp2_with fail
  go_ret
  exact ⟨rfl, rfl⟩

def visits (ks : List Int) (cs : List Cel) : List Int := cs.foldl visitL ks
theorem putV_len (ks : List Int) (x : Int) : (putV ks x).length ≤ ks.length + 1 := by unfold putV; split <;> simp
theorem visitL_len (ks : List Int) (c : Cel) : (visitL ks c).length ≤ ks.length + 1 := by unfold visitL; split; exact putV_len _ _; omega
theorem visits_len : ∀ (cs : List Cel) (ks : List Int), (visits ks cs).length ≤ ks.length + cs.length
  | [], ks => by simp [visits]
  | c :: r, ks => by have := visits_len r (visitL ks c); have := visitL_len ks c; simp only [visits, List.foldl_cons, List.length_cons] at *; omega

theorem VState.below {w w' : World} {B vb nb mb : Nat} {ks : List Int} {p : Option Addr} {n c : Nat} (h : VState w B vb nb mb ks p n c) (hb : Below w.heap.size w w') : VState w' B vb nb mb ks p n c :=
  ⟨(hb.cell (World.block_lt_of_cell? _ _ h.1)).trans h.1, (hb.frozen (World.block_lt_of_cell? _ _ h.1)).trans h.2, (hb.cell (World.block_lt_of_cell? _ _ h.3)).trans h.3, h.4, row_below h.5 hb, h.6.of_block (hb.block _ h.6.lt), h.7, h.8, h.9, h.10⟩

/-- A visit of whatever node. -/
theorem visit_any (c : Cel) (K : List Value → Prop) (v : Value) (Bt B vb nb mb : Nat) (ks : List Int) (p : Option Addr) (n cp : Nat) (w0 w : World) (hc : cellB c.1 c.2.1 c.2.2.length = true) (hl : ks.length ≤ 100000) (hn : NodeIn w0 Bt c K v) (hs : VState w B vb nb mb ks p n cp) :
    Calls Try.prog 66 #[v, .pointer (some ⟨nb, 0, none⟩), .pointer (some ⟨vb, 0, none⟩)] w fun e w' => e = .returned (.tuple #[]) ∧ (∃ p' n' c', VState w' B vb nb mb (visitL ks c) p' n' c') ∧ Below B w w' := by
  have oth : ∀ (t : TypeId) (x : Value), (t = 107 ∨ t = 76 ∨ t = 100) → c.1 ≠ 0 → Calls Try.prog 66 #[.iface t x, .pointer (some ⟨nb, 0, none⟩), .pointer (some ⟨vb, 0, none⟩)] w fun e w' => e = .returned (.tuple #[]) ∧ (∃ p' n' c', VState w' B vb nb mb (visitL ks c) p' n' c') ∧ Below B w w' := fun t x ht h0 =>
    (visitOther_any t x vb nb w ht).mono fun e w' ⟨he, m, hw⟩ => by
      have hb : ∀ A, Below A w w' := fun A => by rw [hw]; exact ⟨rfl, rfl, rfl, Nat.le_refl _, fun _ _ => rfl⟩
      exact ⟨he, ⟨p, n, cp, by rw [visitL, if_neg h0]; exact hs.below (hb _)⟩, hb _⟩
  rcases hn with ⟨h0, rfl⟩ | ⟨h0, rfl⟩ | ⟨h0, rfl⟩ | ⟨h0, b, g, vs, rfl, _⟩
  · rw [h0] at hc
    have hx : 0 ≤ c.2.1 ∧ c.2.1 ≤ 1000000 := by simp [cellB] at hc; omega
    rw [visitL, if_pos h0]
    exact visitVar_any c.2.1 B vb nb mb ks p n cp w hx.1 hx.2 hl hs
  · exact oth _ _ (.inl rfl) (by rw [h0]; decide)
  · exact oth _ _ (.inr (.inl rfl)) (by rw [h0]; decide)
  · exact oth _ _ (.inr (.inr rfl)) (by rw [h0]; decide)

/-- What a walk leaves. -/
def WalkOut (w : World) (B vb nb mb : Nat) (ks : List Int) (e : Ending) (w' : World) : Prop := e = .returned (.tuple #[]) ∧ (∃ p n c, VState w' B vb nb mb ks p n c) ∧ Below B w w'
theorem visits_append (ks : List Int) (a b : List Cel) : visits ks (a ++ b) = visits (visits ks a) b := by simp [visits]
theorem visits_cons (ks : List Int) (c : Cel) (b : List Cel) : visits ks (c :: b) = visits (visitL ks c) b := rfl

set_option maxRecDepth 100000 in
set_option maxHeartbeats 1000000 in
theorem walk_any : ∀ (N : Nat) (c : Cel) (k : Fo) (v : Value) (Bt B vb nb mb : Nat) (ks : List Int) (p : Option Addr) (n cp : Nat) (w0 w : World), k.cells.length ≤ N → (Fo.node c k .nil).ok → FoIn w0 Bt (.node c k .nil) [v] → Below w0.heap.size w0 w → w0.heap.size ≤ B → B ≤ w.heap.size → VState w B vb nb mb ks p n cp → ks.length + 1 + k.cells.length ≤ 100000 →
    Calls Try.prog 61 #[v, .func (.func 66) #[] #[.pointer (some ⟨nb, 0, none⟩), .pointer (some ⟨vb, 0, none⟩)]] w (WalkOut w B vb nb mb (visits ks (c :: k.cells))) := by
  intro N
  induction N using Nat.strongRecOn with
  | _ N ih =>
    intro c k v Bt B vb nb mb ks p n cp w0 w hN hok hfo hw hB0 hB hs hlen
    obtain ⟨v', vr, e, hnode, _⟩ := hfo
    obtain ⟨rfl, rfl⟩ := List.cons.inj e
    have HV := visit_any c _ v Bt B vb nb mb ks p n cp w0 w hok.1 (by omega) hnode hs
    rw [visits_cons]
    have hvl := visitL_len ks c
    have HIH : Hid _ := ih
    have HW : Hid (Below w0.heap.size w0 w) := hw
    have leaf : ∀ (t : TypeId) (x : Value), v = .iface t x → (t = 67 ∨ t = 107 ∨ t = 76) → c.1 ≠ 3 → Calls Try.prog 61 #[v, .func (.func 66) #[] #[.pointer (some ⟨nb, 0, none⟩), .pointer (some ⟨vb, 0, none⟩)]] w (WalkOut w B vb nb mb (visits (visitL ks c) k.cells)) := fun t x hv ht h3 => by
      have hk : k = .nil := hok.2.2.2.1 h3
      subst hk hv
      have HA := fun W => argsLeaf_any t x W ht
      clear hok hnode hs HIH ih e hw
      go_enter Try.func61, Try.ntmps61
      go_wp2_with fail
      refine HV.mono ?_
      rintro e w1 ⟨rfl, hst, hb⟩
      go_wp2_with fail
      refine (HA _).mono ?_
      rintro e w2 ⟨rfl, rfl⟩
      go_wp2_with fail
      refine wp_loop_rounds 1 ?_
      rw [rounds_succ]
      go_wp2_with fail
      go_end0
      exact ⟨rfl, hst, hb⟩
    rcases hnode with ⟨h0, hv⟩ | ⟨h0, hv⟩ | ⟨h0, hv⟩ | ⟨h0, b, g, vs, hv, hcomp⟩
    · exact leaf _ _ hv (.inl rfl) (by rw [h0]; decide)
    · exact leaf _ _ hv (.inr (.inl rfl)) (by rw [h0]; decide)
    · exact leaf _ _ hv (.inr (.inr rfl)) (by rw [h0]; decide)
    · subst hv
      clear leaf
      have HC : Hid (CompAt w0 Bt c.2.2 k b g vs) := hcomp
      have hvl2 : vs.length = k.count := FoIn.count _ _ hcomp.2.2.2.2.2.2
      obtain ⟨q, eq⟩ : ∃ q, q = vs.length := ⟨_, rfl⟩
      have HE : Hid (q = vs.length ∧ vs.length = k.count) := ⟨eq, hvl2⟩
      have hq : q ≤ 100000 := by have := Fo.count_le k; omega
      have HK : Hid k.ok := hok.2.2.2.2.1
      have HBB : Hid (b < w0.heap.size ∧ w0.cell? ⟨b, 1, none⟩ = some (.slice (some ⟨g, 0, none⟩) q q)) := ⟨World.block_lt_of_cell? _ _ hcomp.2.2.2.1, by rw [eq]; exact hcomp.2.2.2.1⟩
      clear hcomp hok hs ih e hw eq hvl2
      go_enter Try.func61, Try.ntmps61
      go_wp2_with fail
      refine HV.mono ?_
      rintro e w1 ⟨rfl, hst, hb1⟩
      have d1 : w1.cell? ⟨b, 1, none⟩ = some (.slice (some ⟨g, 0, none⟩) q q) := (((HW.out.trans (hb1.mono hB0)).cell (p := ⟨b, 1, none⟩) HBB.out.1)).trans HBB.out.2
      have HST : Hid _ := hst
      have HB1 : Hid (Below B w w1) := hb1
      clear hst hb1 HV
      go_wp2_with fail
      refine (argsComp_any b g q _ d1).mono ?_
      rintro e w2 ⟨rfl, hw2⟩
      subst hw2
      clear d1
      go_wp2_with fail
      go_loopw [12] (fun i wr => ∃ (D R : Fo) (us vs2 : List Value) (j : Nat), j ≤ q ∧ i = .int .i64 j ∧ Hid (k = D.cat R ∧ vs = us ++ vs2 ∧ us.length = j) ∧ Hid (FoIn w0 Bt R vs2) ∧ Hid (∃ p n c', VState wr B vb nb mb (visits (visitL ks c) D.cells) p n c') ∧ Hid (Below B w wr)) (fun i _ => q - (intOf i).toNat)
      case atStart => exact ⟨.nil, k, [], vs, 0, Nat.zero_le _, rfl, ⟨rfl, rfl, rfl⟩, HC.out.2.2.2.2.2.2, HST, HB1⟩
      case round =>
        obtain ⟨D, R, us, vs2, j, hj, rfl, HF, HR, HS, HB⟩ := hrel
        by_cases hlt : j < q
        · obtain ⟨c', k', r', rfl⟩ : ∃ c' k' r', R = .node c' k' r' := by
            cases R with
            | nil =>
              have h1 := HF.out
              have h2 : vs2 = [] := HR.out
              have h3 := HE.out.1
              rw [h1.2.1, h2, List.append_nil] at h3
              omega
            | node c' k' r' => exact ⟨c', k', r', rfl⟩
          obtain ⟨v, vr, rfl, hnode, hrest⟩ := HR.out
          have hok2 := (Fo.ok_cat D (.node c' k' r')).1 (HF.out.1 ▸ HK.out)
          have hl2 : D.cells.length + (k'.cells.length + r'.cells.length + 1) = k.cells.length := by
            rw [HF.out.1, Fo.cells_cat]; simp [Fo.cells]
          have hat : w0.cell? ⟨g, j, none⟩ = some v := by
            rw [HC.out.2.2.2.2.2.1 j (by rw [← HE.out.1]; exact hlt), HF.out.2.1]
            simp [List.getD, HF.out.2.2]
          have hwr : Below w0.heap.size w0 wr := HW.out.trans (HB.out.mono hB0)
          have c5 : wr.cell? ⟨g, j, none⟩ = some v := (hwr.cell (World.block_lt_of_cell? _ _ hat)).trans hat
          obtain ⟨p4, n4, c4, hs4⟩ := HS.out
          have hB4 : B ≤ wr.heap.size := Nat.le_trans hB HB.out.size
          have HWK := HIH.out k'.cells.length (by omega) c' k' v Bt B vb nb mb (visits (visitL ks c) D.cells) p4 n4 c4 w0 wr (Nat.le_refl _) ⟨hok2.2.1, hok2.2.2.1, hok2.2.2.2.1, hok2.2.2.2.2.1, hok2.2.2.2.2.2.1, trivial⟩ ⟨v, [], rfl, hnode, rfl⟩ hwr hB0 hB4 hs4 (by have := visits_len D.cells (visitL ks c); omega)
          obtain ⟨vt, vx, rfl⟩ := hnode.iface
          have HRR : Hid (FoIn w0 Bt r' vr) := hrest
          clear hok2 hl2 hat hwr hs4 hnode hrest HIH
          go_wp2_with fail
          refine HWK.mono ?_
          rintro e w3 ⟨rfl, hst3, hb3⟩
          have HN : Hid (k = (D.cat (.node c' k' .nil)).cat r' ∧ vs = (us ++ [.iface vt vx]) ++ vr ∧ (us ++ [Value.iface vt vx]).length = j + 1) := ⟨by rw [Fo.cat_assoc]; exact HF.out.1, by rw [HF.out.2.1]; simp, by simp [HF.out.2.2]⟩
          have HST3 : Hid (∃ p n c2, VState w3 B vb nb mb (visits (visitL ks c) (D.cat (.node c' k' .nil)).cells) p n c2) := by
            show ∃ p n c2, VState w3 B vb nb mb _ p n c2
            rw [Fo.cells_cat, visits_append]; simpa [Fo.cells] using hst3
          have HB3 : Hid (Below B w w3) := HB.out.trans hb3
          clear hst3 hb3 HWK
          go_wp2_with fail
          go_roundw
          case rel => exact ⟨D.cat (.node c' k' .nil), r', us ++ [.iface vt vx], vr, j + 1, by omega, by go_num, HN, HRR, HST3, HB3⟩
          case measure => simp [intOf]; omega
        · obtain rfl : j = q := by omega
          obtain rfl : R = .nil := by
            have h1 := FoIn.count _ _ HR.out
            have h2 := HE.out
            rw [HF.out.2.1, List.length_append] at h2
            have h3 := HF.out.2.2
            cases R with
            | nil => rfl
            | node a b d => simp [Fo.count] at h1; omega
          have HF' : Hid (D = k) := by have := HF.out.1; rw [Fo.cat_nil] at this; exact this.symm
          go_wp2_with fail
          go_end0
          refine ⟨rfl, ?_, HB.out⟩
          have h1 := HS.out
          rwa [HF'.out] at h1

end Go.Proofs.Ytopdhjnpcpkmlaa
