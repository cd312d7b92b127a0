/- walk with note: all the names of a term. Own work of the verifier. -/
import Derived.Test.YtopdhjnpcpkmlaaCmp5
import Derived.Test.YtopdhjnpcpkmlaaVars2
namespace Go.Proofs.Ytopdhjnpcpkmlaa
open Go Go.RowKit Go.Maps
set_option linter.unusedVariables false

def NState (w : World) (mp m : Nat) (ks : List Fun) : Prop := ∃ N, N ≤ m ∧ FunMap w mp N ks (fun _ => 0)
def NWalk (w : World) (B mp m : Nat) (ks : List Fun) (e : Ending) (w' : World) : Prop := e = .returned (.tuple #[]) ∧ NState w' mp m ks ∧ Below B w w'
noncomputable def notes (ks : List Fun) (cs : List Cel) : List Fun := cs.foldl noteL ks
theorem notes_append (ks : List Fun) (a b : List Cel) : notes ks (a ++ b) = notes (notes ks a) b := by simp [notes]
theorem notes_cons (ks : List Fun) (c : Cel) (b : List Cel) : notes ks (c :: b) = notes (noteL ks c) b := rfl
theorem str_size (xs : List Int) : (strOfNums xs).size = xs.length := by simp [strOfNums, ByteArray.size]
theorem noteVisit_any (c : Cel) (k : Fo) (v : Value) (Bt B mp m : Nat) (ks : List Fun) (w0 w : World) (hok : (Fo.node c k .nil).ok) (hw : Below w0.heap.size w0 w) (hB : B ≤ w.heap.size) (hBm : B ≤ mp) (hm : m ≤ 1000000) (hn : NodeIn w0 Bt c (fun kv => FoIn w0 Bt k kv) v) (hs : NState w mp m ks) :
    Calls Try.prog 62 #[.map (some mp), v] w (NWalk w B mp (m + 1) (noteL ks c)) := by
  obtain ⟨N, hN, hfm⟩ := hs
  have fin : ∀ {e : Ending} {w' : World} {ls : List Fun}, NoteOut w B mp N ls e w' → ls = noteL ks c → NWalk w B mp (m + 1) (noteL ks c) e w' := fun ⟨h1, ⟨N', _, h3, h4⟩, h5⟩ e => ⟨h1, ⟨N', by omega, by rw [← e]; exact h4⟩, h5⟩
  have hlen : c.2.2.length ≤ 100 := by have := hok.1; simp only [cellB, decide_eq_true_eq] at this; omega
  rcases hn with ⟨h0, rfl⟩ | ⟨h0, rfl⟩ | ⟨h0, rfl⟩ | ⟨h0, b, g, vs, rfl, _, _, c0, c1, _, _, hk⟩
  · exact (noteOther_any _ _ B mp N ks w (.inl rfl) hfm).mono fun e w' h => fin h (by rw [noteL, if_neg (by rw [h0]; decide)])
  · exact (noteOther_any _ _ B mp N ks w (.inr rfl) hfm).mono fun e w' h => fin h (by rw [noteL, if_neg (by rw [h0]; decide)])
  · have hc1 : c.2.1 = 0 := by have := hok.1; rw [h0] at this; simp [cellB] at this; exact this.2
    exact (noteAtom_any _ B mp N ks w (by rw [str_size]; omega) hB hBm (by omega) hfm).mono fun e w' h => fin h (by rw [noteL, if_pos (.inl h0), hc1])
  · have hc1 : c.2.1 = (vs.length : Int) := by rw [FoIn.count _ _ hk]; exact hok.2.2.1 h0
    have hq : vs.length ≤ 1000000 := by have := hok.1; rw [h0] at this; simp [cellB] at this; omega
    exact (noteComp_any b g vs.length _ B mp N ks w ((hw.cell (World.block_lt_of_cell? _ _ c0)).trans c0) ((hw.cell (World.block_lt_of_cell? _ _ c1)).trans c1) (by rw [str_size]; omega) hq hB hBm (by omega) hfm).mono fun e w' h => fin h (by rw [noteL, if_pos (.inr h0), hc1])

set_option maxRecDepth 100000 in
set_option maxHeartbeats 1000000 in
theorem noteWalk_any : ∀ (N : Nat) (c : Cel) (k : Fo) (v : Value) (Bt B mp m : Nat) (ks : List Fun) (w0 w : World), k.cells.length ≤ N → (Fo.node c k .nil).ok → FoIn w0 Bt (.node c k .nil) [v] → Below w0.heap.size w0 w → w0.heap.size ≤ B → B ≤ w.heap.size → B ≤ mp → NState w mp m ks → m + 1 + k.cells.length ≤ 100000 →
    Calls Try.prog 61 #[v, .func (.func 62) #[.map (some mp)] #[]] w (NWalk w B mp (m + (k.cells.length + 1)) (notes ks (c :: k.cells))) := by
  intro N
  induction N using Nat.strongRecOn with
  | _ N ih =>
    intro c k v Bt B mp m ks w0 w hN hok hfo hw hB0 hB hBm hs hlen
    obtain ⟨v', vr, e, hnode, _⟩ := hfo
    obtain ⟨rfl, rfl⟩ := List.cons.inj e
    have HV := noteVisit_any c k v Bt B mp m ks w0 w hok hw hB hBm (by omega) hnode hs
    rw [notes_cons]
    have HIH : Hid _ := ih
    have HW : Hid (Below w0.heap.size w0 w) := hw
    have leaf : ∀ (t : TypeId) (x : Value), v = .iface t x → (t = 67 ∨ t = 107 ∨ t = 76) → c.1 ≠ 3 → Calls Try.prog 61 #[v, .func (.func 62) #[.map (some mp)] #[]] w (NWalk w B mp (m + (k.cells.length + 1)) (notes (noteL ks c) k.cells)) := fun t x hv ht h3 => by
      have hk : k = .nil := hok.2.2.2.1 h3
      subst hk hv
      have HA := fun W => argsLeaf_any t x W ht
      clear hok hnode hs HIH ih e hw
      go_enter Try.func61, Try.ntmps61
      go_wp2_with fail
      refine HV.mono ?_
      rintro e w1 ⟨rfl, hst, hb⟩
      go_wp2_with fail
      refine (HA _).mono ?_
      rintro e w2 ⟨rfl, rfl⟩
      go_wp2_with fail
      refine wp_loop_rounds 1 ?_
      rw [rounds_succ]
      go_wp2_with fail
      go_end0
      exact ⟨rfl, hst, hb⟩
    rcases hnode with ⟨h0, hv⟩ | ⟨h0, hv⟩ | ⟨h0, hv⟩ | ⟨h0, b, g, vs, hv, hcomp⟩
    · exact leaf _ _ hv (.inl rfl) (by rw [h0]; decide)
    · exact leaf _ _ hv (.inr (.inl rfl)) (by rw [h0]; decide)
    · exact leaf _ _ hv (.inr (.inr rfl)) (by rw [h0]; decide)
    · subst hv
      clear leaf
      have HC : Hid (CompAt w0 Bt c.2.2 k b g vs) := hcomp
      have hvl2 : vs.length = k.count := FoIn.count _ _ hcomp.2.2.2.2.2.2
      obtain ⟨q, eq⟩ : ∃ q, q = vs.length := ⟨_, rfl⟩
      have HE : Hid (q = vs.length ∧ vs.length = k.count) := ⟨eq, hvl2⟩
      have hq : q ≤ 100000 := by have := Fo.count_le k; omega
      have HK : Hid k.ok := hok.2.2.2.2.1
      have HBB : Hid (b < w0.heap.size ∧ w0.cell? ⟨b, 1, none⟩ = some (.slice (some ⟨g, 0, none⟩) q q)) := ⟨World.block_lt_of_cell? _ _ hcomp.2.2.2.1, by rw [eq]; exact hcomp.2.2.2.1⟩
      clear hcomp hok hs ih e hw eq hvl2
      go_enter Try.func61, Try.ntmps61
      go_wp2_with fail
      refine HV.mono ?_
      rintro e w1 ⟨rfl, hst, hb1⟩
      have d1 : w1.cell? ⟨b, 1, none⟩ = some (.slice (some ⟨g, 0, none⟩) q q) := (((HW.out.trans (hb1.mono hB0)).cell (p := ⟨b, 1, none⟩) HBB.out.1)).trans HBB.out.2
      have HST : Hid _ := hst
      have HB1 : Hid (Below B w w1) := hb1
      clear hst hb1 HV
      go_wp2_with fail
      refine (argsComp_any b g q _ d1).mono ?_
      rintro e w2 ⟨rfl, hw2⟩
      subst hw2
      clear d1
      go_wp2_with fail
      go_loopw [12] (fun i wr => ∃ (D R : Fo) (us vs2 : List Value) (j : Nat), j ≤ q ∧ i = .int .i64 j ∧ Hid (k = D.cat R ∧ vs = us ++ vs2 ∧ us.length = j) ∧ Hid (FoIn w0 Bt R vs2) ∧ Hid (NState wr mp (m + (D.cells.length + 1)) (notes (noteL ks c) D.cells)) ∧ Hid (Below B w wr)) (fun i _ => q - (intOf i).toNat)
      case atStart => exact ⟨.nil, k, [], vs, 0, Nat.zero_le _, rfl, ⟨rfl, rfl, rfl⟩, HC.out.2.2.2.2.2.2, HST, HB1⟩
      case round =>
        obtain ⟨D, R, us, vs2, j, hj, rfl, HF, HR, HS, HB⟩ := hrel
        by_cases hlt : j < q
        · obtain ⟨c', k', r', rfl⟩ : ∃ c' k' r', R = .node c' k' r' := by
            cases R with
            | nil =>
              have h1 := HF.out
              have h2 : vs2 = [] := HR.out
              have h3 := HE.out.1
              rw [h1.2.1, h2, List.append_nil] at h3
              omega
            | node c' k' r' => exact ⟨c', k', r', rfl⟩
          obtain ⟨v, vr, rfl, hnode, hrest⟩ := HR.out
          have hok2 := (Fo.ok_cat D (.node c' k' r')).1 (HF.out.1 ▸ HK.out)
          have hl2 : D.cells.length + (k'.cells.length + r'.cells.length + 1) = k.cells.length := by
            rw [HF.out.1, Fo.cells_cat]; simp [Fo.cells]
          have hat : w0.cell? ⟨g, j, none⟩ = some v := by
            rw [HC.out.2.2.2.2.2.1 j (by rw [← HE.out.1]; exact hlt), HF.out.2.1]
            simp [List.getD, HF.out.2.2]
          have hwr : Below w0.heap.size w0 wr := HW.out.trans (HB.out.mono hB0)
          have c5 : wr.cell? ⟨g, j, none⟩ = some v := (hwr.cell (World.block_lt_of_cell? _ _ hat)).trans hat
          have hB4 : B ≤ wr.heap.size := Nat.le_trans hB HB.out.size
          have HWK := HIH.out k'.cells.length (by omega) c' k' v Bt B mp (m + (D.cells.length + 1)) (notes (noteL ks c) D.cells) w0 wr (Nat.le_refl _) ⟨hok2.2.1, hok2.2.2.1, hok2.2.2.2.1, hok2.2.2.2.2.1, hok2.2.2.2.2.2.1, trivial⟩ ⟨v, [], rfl, hnode, rfl⟩ hwr hB0 hB4 hBm HS.out (by omega)
          obtain ⟨vt, vx, rfl⟩ := hnode.iface
          have HRR : Hid (FoIn w0 Bt r' vr) := hrest
          clear hok2 hl2 hat hwr hnode hrest HIH
          go_wp2_with fail
          refine HWK.mono ?_
          rintro e w3 ⟨rfl, hst3, hb3⟩
          have HN : Hid (k = (D.cat (.node c' k' .nil)).cat r' ∧ vs = (us ++ [.iface vt vx]) ++ vr ∧ (us ++ [Value.iface vt vx]).length = j + 1) := ⟨by rw [Fo.cat_assoc]; exact HF.out.1, by rw [HF.out.2.1]; simp, by simp [HF.out.2.2]⟩
          have HST3 : Hid (NState w3 mp (m + ((D.cat (.node c' k' .nil)).cells.length + 1)) (notes (noteL ks c) (D.cat (.node c' k' .nil)).cells)) := by
            have e : m + (D.cells.length + 1) + (k'.cells.length + 1) = m + ((D.cat (.node c' k' .nil)).cells.length + 1) := by rw [Fo.cells_cat]; simp [Fo.cells]; omega
            rw [← e]
            show NState _ _ _ _
            rw [Fo.cells_cat, notes_append]; simpa [Fo.cells] using hst3
          have HB3 : Hid (Below B w w3) := HB.out.trans hb3
          clear hst3 hb3 HWK
          go_wp2_with fail
          go_roundw
          case rel => exact ⟨D.cat (.node c' k' .nil), r', us ++ [.iface vt vx], vr, j + 1, by omega, by go_num, HN, HRR, HST3, HB3⟩
          case measure => simp [intOf]; omega
        · obtain rfl : j = q := by omega
          obtain rfl : R = .nil := by
            have h1 := FoIn.count _ _ HR.out
            have h2 := HE.out
            rw [HF.out.2.1, List.length_append] at h2
            have h3 := HF.out.2.2
            cases R with
            | nil => rfl
            | node a b d => simp [Fo.count] at h1; omega
          have HF' : Hid (D = k) := by have := HF.out.1; rw [Fo.cat_nil] at this; exact this.symm
          go_wp2_with fail
          go_end0
          refine ⟨rfl, ?_, HB.out⟩
          have h1 := HS.out
          rwa [HF'.out] at h1

end Go.Proofs.Ytopdhjnpcpkmlaa
