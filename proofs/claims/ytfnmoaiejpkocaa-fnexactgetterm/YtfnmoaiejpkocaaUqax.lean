/- Texts of Tree5, CellG, GtS. Own work of the verifier. -/
import Derived.Test.YtfnmoaiejpkocaaUqar
import Derived.Deep.RegionLaw
import Derived.Deep.Cut
import Derived.Test.YtfnmoaiejpkocaaUqap
import Derived.Test.YtfnmoaiejpkocaaUqaw
namespace Go.Proofs.Ytfnmoaiejpkocaa
open Go Go.RowKit
set_option linter.unusedVariables false

/-- A compound's block and its arguments' row. -/
def CompAt (w : World) (B : Nat) (s : List Int) (k : Fo) (b g : Nat) (vs : List Value) : Prop :=
  B ≤ b ∧ B ≤ g ∧ w.cell? ⟨b, 0, none⟩ = some (.string (strOfNums s)) ∧ w.cell? ⟨b, 1, none⟩ = some (.slice (some ⟨g, 0, none⟩) vs.length vs.length) ∧ g < w.heap.size ∧ (∀ i, i < vs.length → w.cell? ⟨g, i, none⟩ = some (vs.getD i .nilIface)) ∧ FoIn w B k vs

set_option maxRecDepth 20000 in
set_option maxHeartbeats 2000000 in
theorem appComp_any : ∀ (N : Nat) (s : List Int) (k : Fo) (b g : Nat) (vs : List Value) (p : Option Addr) (n cp : Nat) (cs : List Cel) (Bt B : Nat) (w0 w : World), k.cells.length ≤ N → k.ok → Byte s → CompAt w0 Bt s k b g vs → Below w0.heap.size w0 w → w0.heap.size ≤ B → B ≤ w.heap.size →
    OwnC w B p n cp cs → n + 1 + k.cells.length ≤ 1000000 → Calls Try.prog 144 #[.pointer (some ⟨b, 0, none⟩), .slice p n cp] w (AppOut w B cs ((3, k.count, s) :: k.cells)) := by
  intro N
  induction N using Nat.strongRecOn with
  | _ N ih =>
    intro s k b g vs p n cp cs Bt B w0 w hN hok hs hcomp hw hB0 hB ho hn
    have HO : Hid (OwnC w B p n cp cs) := ho
    have HC : Hid (CompAt w0 Bt s k b g vs) := hcomp
    have HW : Hid (Below w0.heap.size w0 w) := hw
    obtain ⟨w1, cap1, hcv, hb1, ht⟩ := conv_bytes w.drew s hs 9 Try.underlying9
    have hvl : vs.length = k.count := FoIn.count _ _ hcomp.2.2.2.2.2.2
    have c0 := (hw.cell (World.block_lt_of_cell? _ _ hcomp.2.2.1)).trans hcomp.2.2.1
    have c1 := (hw.cell (World.block_lt_of_cell? _ _ hcomp.2.2.2.1)).trans hcomp.2.2.2.1
    have hw1 : Below w.heap.size w w1 := (Below.refl _ _).drew.trans hb1
    have d0 := (hw1.cell (World.block_lt_of_cell? _ _ c0)).trans c0
    have d1 := (hw1.cell (World.block_lt_of_cell? _ _ c1)).trans c1
    obtain ⟨m, em⟩ : ∃ m, m = s.length := ⟨_, rfl⟩
    obtain ⟨str, es⟩ : ∃ str, str = strOfNums s := ⟨_, rfl⟩
    obtain ⟨q, eq⟩ : ∃ q, q = vs.length := ⟨_, rfl⟩
    rw [← em] at hcv ht
    rw [← es] at hcv c0 d0
    rw [← eq] at c1 d1
    have hs1 := hb1.size
    have hcv' : (convert 9 26 (.string str)).run Try.prog w.drew = .ok (.slice (some ⟨w.heap.size, 0, none⟩) m cap1) w1 := hcv
    have ht' : OwnT w1 w.heap.size (some ⟨w.heap.size, 0, none⟩) m cap1 s := ht
    have hb : Below w1.heap.size w1 (w1.alloc (Obj.cells #[Value.int IntKind.i64 3, Value.int IntKind.i64 q, Value.slice (some ⟨w.heap.size, 0, none⟩) m cap1] 31)) := (Below.refl _ _).alloc (Nat.le_refl _) _
    have HB : Hid (Below w.heap.size w (w1.alloc (Obj.cells #[Value.int IntKind.i64 3, Value.int IntKind.i64 q, Value.slice (some ⟨w.heap.size, 0, none⟩) m cap1] 31))) := Below.on hw1 hb
    have HT : Hid (OwnT (w1.alloc (Obj.cells #[Value.int IntKind.i64 3, Value.int IntKind.i64 q, Value.slice (some ⟨w.heap.size, 0, none⟩) m cap1] 31)) w.heap.size (some ⟨w.heap.size, 0, none⟩) m cap1 s) := ht'.below hb
    have HX : Hid (Box3 (w1.alloc (Obj.cells #[Value.int IntKind.i64 3, Value.int IntKind.i64 q, Value.slice (some ⟨w.heap.size, 0, none⟩) m cap1] 31)) w1.heap.size (.int .i64 3) (.int .i64 q) (.slice (some ⟨w.heap.size, 0, none⟩) m cap1)) := Box3.of_block (t := 31) (heap_alloc_new _ _)
    have HIH : Hid _ := ih
    have HE : Hid (q = vs.length ∧ vs.length = k.count) := ⟨eq, hvl⟩
    have hq : q ≤ 1000000 := by have := Fo.count_le k; omega
    clear ih ho hcomp hw em es eq hvl hb1 ht ht' hcv hb hw1
    go_enter Try.func144, Try.ntmps144
    go_upto_region 1 with fail
    go_cut [1] from 7 (fun v wc => ∃ g2 n2 c2, v = .slice (some ⟨g2, 0, none⟩) n2 c2 ∧ Hid (OwnC wc B (some ⟨g2, 0, none⟩) n2 c2 (cs ++ [((3, (q : Int), s) : Cel)])) ∧ Hid (Below B w wc) ∧ n2 = n + 1)
    case first =>
      go_region_law (refine step_app_cell w _ rfl _ _ rfl B p n cp cs rfl HO.out HB.out hB ⟨w1.heap.size, 0, none⟩ 1 rfl 3 q (some ⟨w.heap.size, 0, none⟩) m cap1 s HT.out (news_rc HX.out) (by omega) ?_; intro g1 n1 cap2 w2 hown1 hb2 hn1)
      all_goals go_wp2_with fail
      all_goals go_meet
      all_goals exact ⟨g1, n1, cap2, rfl, hown1, (HB.out.mono hB).trans hb2, hn1⟩
    case rest =>
      obtain ⟨g2, n2, c2, rfl, HO2, HB2, hn2⟩ := hcut
      have e1 : wc.cell? ⟨b, 1, none⟩ = some (.slice (some ⟨g, 0, none⟩) q q) := (HB2.out.cell (p := ⟨b, 1, none⟩) (by have := World.block_lt_of_cell? _ _ HC.out.2.2.2.1; show b < B; simp at this; omega)).trans c1
      clear c0 c1 d0 d1 hcv' HO HB HT HX
      go_wp2_with fail
      go_loopw [1, 26] (fun v i wr => ∃ (D R : Fo) (us vs2 : List Value) (j : Nat) (p4 : Option Addr) (n4 c4 : Nat), j ≤ q ∧ n4 ≤ 1000000 ∧ i = .int .i64 j ∧ v = .slice p4 n4 c4 ∧ Hid (k = D.cat R ∧ vs = us ++ vs2 ∧ us.length = j ∧ n4 = n + 1 + D.cells.length) ∧ Hid (FoIn w0 Bt R vs2) ∧
        Hid (OwnC wr B p4 n4 c4 (cs ++ ((3, (q : Int), s) : Cel) :: D.cells)) ∧ Hid (Below B w wr)) (fun _ i _ => q - (intOf i).toNat)
      case atStart => exact ⟨.nil, k, [], vs, 0, _, _, _, Nat.zero_le _, by omega, rfl, rfl, ⟨rfl, rfl, rfl, by simp [Fo.cells, hn2]⟩, HC.out.2.2.2.2.2.2, HO2, HB2⟩
      case round =>
        obtain ⟨D, R, us, vs2, j, p4, n4, c4, hj, hn4, rfl, rfl, HF, HR, HO4, HB4⟩ := hrel
        by_cases hlt : j < q
        · obtain ⟨c', k', r', rfl⟩ : ∃ c' k' r', R = .node c' k' r' := by
            cases R with
            | nil =>
              have h1 := HF.out
              have h2 : vs2 = [] := HR.out
              have h3 := HE.out.1
              rw [h1.2.1, h2, List.append_nil] at h3
              omega
            | node c' k' r' => exact ⟨c', k', r', rfl⟩
          obtain ⟨v, vr, rfl, hnode, hrest⟩ := HR.out
          have hok2 := (Fo.ok_cat D (.node c' k' r')).1 (HF.out.1 ▸ hok)
          have hlen : D.cells.length + (k'.cells.length + r'.cells.length + 1) = k.cells.length := by
            rw [HF.out.1, Fo.cells_cat]; simp [Fo.cells]
          have hat : w0.cell? ⟨g, j, none⟩ = some v := by
            rw [HC.out.2.2.2.2.2.1 j (by rw [← HE.out.1]; exact hlt), HF.out.2.1]
            simp [List.getD, HF.out.2.2.1]
          have hwr : Below w0.heap.size w0 wr := HW.out.trans (HB4.out.mono hB0)
          have c5 : wr.cell? ⟨g, j, none⟩ = some v := (hwr.cell (World.block_lt_of_cell? _ _ hat)).trans hat
          have next : ∀ p3 n3 c3 w3, OwnC w3 B p3 n3 c3 ((cs ++ ((3, (q : Int), s) : Cel) :: D.cells) ++ (c' :: k'.cells)) → Below B wr w3 →
              ∃ (D R : Fo) (us vs2 : List Value) (j' : Nat) (p4 : Option Addr) (n4 c4 : Nat), j' ≤ q ∧ n4 ≤ 1000000 ∧ Value.int .i64 ((j : Int) + 1) = .int .i64 j' ∧ Value.slice p3 n3 c3 = .slice p4 n4 c4 ∧ Hid (k = D.cat R ∧ vs = us ++ vs2 ∧ us.length = j' ∧ n4 = n + 1 + D.cells.length) ∧ Hid (FoIn w0 Bt R vs2) ∧
                Hid (OwnC w3 B p4 n4 c4 (cs ++ ((3, (q : Int), s) : Cel) :: D.cells)) ∧ Hid (Below B w w3) := fun p3 n3 c3 w3 h1 h2 => by
            have e3 := h1.1
            have e4 := HO4.out.1
            have e5 := HF.out.2.2.2
            simp only [List.length_append, List.length_cons] at e3 e4
            refine ⟨D.cat (.node c' k' .nil), r', us ++ [v], vr, j + 1, p3, n3, c3, by omega, by omega, by go_num, rfl, ⟨by rw [Fo.cat_assoc]; exact HF.out.1, by rw [HF.out.2.1]; simp, by simp [HF.out.2.2.1], ?_⟩, hrest, ?_, HB4.out.trans h2⟩
            · rw [Fo.cells_cat]; simp [Fo.cells]; omega
            · show OwnC _ _ _ _ _ _
              rw [Fo.cells_cat]; simpa [Fo.cells] using h1
          have NEXT : Hid _ := next
          clear next
          have hB4 : B ≤ wr.heap.size := Nat.le_trans hB HB4.out.size
          rcases hnode with ⟨h0, rfl⟩ | ⟨h0, rfl⟩ | ⟨h0, rfl⟩ | ⟨h0, b5, g5, kv, rfl, h5⟩
          · have hk' : k' = .nil := hok2.2.2.2.2.1 (by rw [h0]; decide)
            have hcl := hok2.2.1
            obtain ⟨c0, c1, c2'⟩ := c'
            simp only at h0 hcl
            subst h0 hk'
            have e : c2' = [] := by simp [cellB] at hcl; exact hcl.2.2
            subst e
            have HS := appVar_any c1 p4 n4 c4 _ B wr hB4 (by omega) HO4.out
            clear hok2 hlen hat hcl hrest hwr HO4 HR HIH
            go_wp2_with fail
            refine HS.mono ?_
            rintro e w3 ⟨p3, n3, c3, rfl, hown3, hb3⟩
            go_wp2_with fail
            go_roundw
            case rel => exact NEXT.out p3 n3 c3 w3 hown3 hb3
            case measure => simp [intOf]; omega
          · have hk' : k' = .nil := hok2.2.2.2.2.1 (by rw [h0]; decide)
            have hcl := hok2.2.1
            obtain ⟨c0, c1, c2'⟩ := c'
            simp only at h0 hcl
            subst h0 hk'
            have e : c2' = [] := by simp [cellB] at hcl; exact hcl.2.2
            subst e
            have HS := appNum_any c1 p4 n4 c4 _ B wr hB4 (by omega) HO4.out
            clear hok2 hlen hat hcl hrest hwr HO4 HR HIH
            go_wp2_with fail
            refine HS.mono ?_
            rintro e w3 ⟨p3, n3, c3, rfl, hown3, hb3⟩
            go_wp2_with fail
            go_roundw
            case rel => exact NEXT.out p3 n3 c3 w3 hown3 hb3
            case measure => simp [intOf]; omega
          · have hk' : k' = .nil := hok2.2.2.2.2.1 (by rw [h0]; decide)
            have hcl := hok2.2.1
            have hby := hok2.2.2.1
            obtain ⟨c0, c1, c2'⟩ := c'
            simp only at h0 hcl hby c5
            subst h0 hk'
            have e : c1 = 0 := by simp [cellB] at hcl; exact hcl.2
            subst e
            have HS := appAtom_any c2' hby p4 n4 c4 _ B wr hB4 (by omega) HO4.out
            obtain ⟨st, est⟩ : ∃ st, st = strOfNums c2' := ⟨_, rfl⟩
            rw [← est] at HS c5
            clear hok2 hlen hat hcl hrest hwr HO4 HR HIH hby est
            go_wp2_with fail
            refine HS.mono ?_
            rintro e w3 ⟨p3, n3, c3, rfl, hown3, hb3⟩
            go_wp2_with fail
            go_roundw
            case rel => exact NEXT.out p3 n3 c3 w3 hown3 hb3
            case measure => simp [intOf]; omega
          · have hcl := hok2.2.1
            have hby := hok2.2.2.1
            have hcn := hok2.2.2.2.1 h0
            obtain ⟨c0, c1, c2'⟩ := c'
            simp only at h0 hcl hby hcn h5
            subst h0 hcn
            have HS := HIH.out k'.cells.length (by omega) c2' k' b5 g5 kv p4 n4 c4 _ Bt B w0 wr (Nat.le_refl _) hok2.2.2.2.2.2.1 hby h5 hwr hB0 hB4 HO4.out (by have := HF.out.2.2.2; omega)
            clear hok2 hlen hat hcl hrest hwr HO4 HR HIH hby h5
            go_wp2_with fail
            refine HS.mono ?_
            rintro e w3 ⟨p3, n3, c3, rfl, hown3, hb3⟩
            go_wp2_with fail
            go_roundw
            case rel => exact NEXT.out p3 n3 c3 w3 hown3 hb3
            case measure => simp [intOf]; omega
        · obtain rfl : j = q := by omega
          obtain rfl : R = .nil := by
            have h1 := FoIn.count _ _ HR.out
            have h2 := HE.out
            rw [HF.out.2.1, List.length_append] at h2
            have h3 := HF.out.2.2.1
            cases R with
            | nil => rfl
            | node a b d => simp [Fo.count] at h1; omega
          have HF' : Hid (D = k) := by have := HF.out.1; rw [Fo.cat_nil] at this; exact this.symm
          go_wp2_with fail
          go_ret
          refine ⟨_, _, _, rfl, ?_, HB4.out⟩
          have h1 := HO4.out
          rw [HF'.out, HE.out.1, HE.out.2] at h1
          exact h1

end Go.Proofs.Ytfnmoaiejpkocaa

namespace Go.Proofs.Ytfnmoaiejpkocaa
open Go Go.RowKit Go.Maps
set_option linter.unusedVariables false

set_option maxRecDepth 100000 in
theorem cellsOf_any (c : Cel) (k : Fo) (v : Value) (Bt : Nat) (w : World) (hok : (Fo.node c k .nil).ok) (hfo : FoIn w Bt (.node c k .nil) [v]) (hl : k.cells.length ≤ 10000) :
    Calls Try.prog 53 #[v] w fun e w' => ∃ p n cp, e = .returned (.slice p n cp) ∧ OwnC w' w.heap.size p n cp (c :: k.cells) ∧ Below w.heap.size w w' := by
  have nil := OwnC.nil w w.heap.size
  have fin : ∀ {e : Ending} {w' : World}, AppOut w w.heap.size [] (c :: k.cells) e w' → ∃ p n cp, e = .returned (.slice p n cp) ∧ OwnC w' w.heap.size p n cp (c :: k.cells) ∧ Below w.heap.size w w' := fun ⟨p, n, cp, h1, h2, h3⟩ => ⟨p, n, cp, h1, by simpa using h2, h3⟩
  have FIN : Hid _ := @fin
  clear fin
  obtain ⟨v', vr, e, hnode, _⟩ := hfo
  obtain ⟨rfl, rfl⟩ := List.cons.inj e
  have hcl := hok.1
  have hby := hok.2.1
  rcases hnode with ⟨h0, rfl⟩ | ⟨h0, rfl⟩ | ⟨h0, rfl⟩ | ⟨h0, b, g, vs, rfl, hcomp⟩
  · have hk : k = .nil := hok.2.2.2.1 (by rw [h0]; decide)
    obtain ⟨c0, c1, c2⟩ := c
    simp only at h0 hcl
    subst h0 hk
    have e2 : c2 = [] := by simp [cellB] at hcl; exact hcl.2.2
    subst e2
    have HS := appVar_any c1 none 0 0 [] w.heap.size w (Nat.le_refl _) (by decide) nil
    clear hok hcl hby e nil
    go_enter Try.func53, Try.ntmps53
    go_wp2_with fail
    refine HS.mono ?_
    rintro e w1 ⟨p3, n3, c3, rfl, h1, h2⟩
    have HF := FIN.out ⟨p3, n3, c3, rfl, h1, h2⟩
    have HFF : Hid _ := HF
    clear HF h1 h2
    go_wp2_with fail
    go_ret
    exact HFF.out
  · have hk : k = .nil := hok.2.2.2.1 (by rw [h0]; decide)
    obtain ⟨c0, c1, c2⟩ := c
    simp only at h0 hcl
    subst h0 hk
    have e2 : c2 = [] := by simp [cellB] at hcl; exact hcl.2.2
    subst e2
    have HS := appNum_any c1 none 0 0 [] w.heap.size w (Nat.le_refl _) (by decide) nil
    clear hok hcl hby e nil
    go_enter Try.func53, Try.ntmps53
    go_wp2_with fail
    refine HS.mono ?_
    rintro e w1 ⟨p3, n3, c3, rfl, h1, h2⟩
    have HF := FIN.out ⟨p3, n3, c3, rfl, h1, h2⟩
    have HFF : Hid _ := HF
    clear HF h1 h2
    go_wp2_with fail
    go_ret
    exact HFF.out
  · have hk : k = .nil := hok.2.2.2.1 (by rw [h0]; decide)
    obtain ⟨c0, c1, c2⟩ := c
    simp only at h0 hcl hby
    subst h0 hk
    have e2 : c1 = 0 := by simp [cellB] at hcl; exact hcl.2
    subst e2
    have HS := appAtom_any c2 hby none 0 0 [] w.heap.size w (Nat.le_refl _) (by decide) nil
    obtain ⟨str, es⟩ : ∃ str, str = strOfNums c2 := ⟨_, rfl⟩
    simp only
    rw [← es] at HS ⊢
    clear hok hcl hby e nil es
    go_enter Try.func53, Try.ntmps53
    go_wp2_with fail
    refine HS.mono ?_
    rintro e w1 ⟨p3, n3, c3, rfl, h1, h2⟩
    have HF := FIN.out ⟨p3, n3, c3, rfl, h1, h2⟩
    have HFF : Hid _ := HF
    clear HF h1 h2
    go_wp2_with fail
    go_ret
    exact HFF.out
  · have hcn := hok.2.2.1 h0
    obtain ⟨c0, c1, c2⟩ := c
    simp only at h0 hcl hby hcn hcomp
    subst h0 hcn
    have HS := appComp_any k.cells.length c2 k b g vs none 0 0 [] Bt w.heap.size w w (Nat.le_refl _) hok.2.2.2.2.1 hby hcomp (Below.refl _ _) (Nat.le_refl _) (Nat.le_refl _) nil (by omega)
    clear hok hcl hby e nil hcomp
    go_enter Try.func53, Try.ntmps53
    go_wp2_with fail
    refine HS.mono ?_
    rintro e w1 ⟨p3, n3, c3, rfl, h1, h2⟩
    have HF := FIN.out ⟨p3, n3, c3, rfl, h1, h2⟩
    have HFF : Hid _ := HF
    clear HF h1 h2
    go_wp2_with fail
    go_ret
    exact HFF.out

end Go.Proofs.Ytfnmoaiejpkocaa

namespace Go.Proofs.Ytfnmoaiejpkocaa
open Go Go.RowKit Go.Maps
set_option linter.unusedVariables false

/-- How deep it is looked. -/
noncomputable def gD (xs : List Cel) (c : Cel) : Nat := dW xs (drf xs c) + 1
/-- What GetTerm answers. -/
noncomputable def getA (xs : List Cel) (tr : List Int) (c : Cel) : List Cel × Int :=
  if vsB xs tr c.1 c.2.1 c.2.2.length = true then (if gZ xs (gD xs c) c ≤ 2000 then ((gF xs (gD xs c) c).cells, 0) else ([], 3)) else ([], 1)
/-- An answer of cells and a code. -/
def CellsA (A : List Cel × Int) (w : World) (e : Ending) (w' : World) : Prop :=
  ∃ p c, e = .returned (.tuple #[.slice p A.1.length c, .int .i64 A.2]) ∧ OwnC w' w.heap.size p A.1.length c A.1 ∧ Below w.heap.size w w'
theorem CellsA.none {w w' : World} (code : Int) (hb : Below w.heap.size w w') : CellsA ([], code) w (.returned (.tuple #[.slice none 0 0, .int .i64 code])) w' := ⟨Option.none, 0, rfl, OwnC.nil _ _, hb⟩

set_option maxHeartbeats 1000000 in
set_option maxRecDepth 100000 in
theorem specGet_any (p q pt : Option Addr) (c1 c2 cap : Nat) (c : Cel) (xs : List Cel) (tr : List Int) (w : World) (hx : xs.length ≤ 1000000000) (hy : tr.length ≤ 1000000000) (ht : c.2.2.length ≤ 1000000000) (hbx : ∀ a, a < xs.length → Byte (xs.getD a Cel.none).2.2) (hbc : Byte c.2.2) (hc : CIn w p xs) (hi : IIn w q tr) (hin : BIn w pt c.2.2) :
    Calls Try.prog 20 #[.agg #[.slice p xs.length c1, .slice q tr.length c2], .agg #[.int .i64 c.1, .int .i64 c.2.1, .slice pt c.2.2.length cap]] w (CellsA (getA xs tr c) w) := by
  obtain ⟨k, n, t⟩ := c
  obtain ⟨W0, eW0⟩ : ∃ W0, W0 = (w.alloc (.cells #[.slice p xs.length c1, .slice q tr.length c2] 36)).alloc (.cells #[.int .i64 k, .int .i64 n, .slice pt t.length cap] 31) := ⟨_, rfl⟩
  have hb0 : Below w.heap.size w W0 := by rw [eW0]; exact ((Below.refl _ _).alloc (Nat.le_refl _) _).alloc (by simp) _
  have k0 : W0.heap[w.heap.size]? = some (.cells #[.slice p xs.length c1, .slice q tr.length c2] 36) := by
    rw [eW0, Below.heap_alloc _ _ _ (by simp)]; exact heap_alloc_new _ _
  have k1 : W0.heap[w.heap.size + 1]? = some (.cells #[.int .i64 k, .int .i64 n, .slice pt t.length cap] 31) := by
    rw [eW0]
    have := heap_alloc_new (w.alloc (.cells #[.slice p xs.length c1, .slice q tr.length c2] 36)) (.cells #[.int .i64 k, .int .i64 n, .slice pt t.length cap] 31)
    simpa using this
  have hz0 : W0.heap.size = w.heap.size + 1 + 1 := by rw [eW0]; simp
  have HX : Hid (∀ W, Below W0.heap.size W0 W → (W.cell? ⟨w.heap.size, 0, none⟩ = some (.slice p xs.length c1) ∧ W.cell? ⟨w.heap.size, 1, none⟩ = some (.slice q tr.length c2)) ∧ W.cell? ⟨w.heap.size + 1, 0, none⟩ = some (.int .i64 k) ∧ W.cell? ⟨w.heap.size + 1, 1, none⟩ = some (.int .i64 n) ∧ W.cell? ⟨w.heap.size + 1, 2, none⟩ = some (.slice pt t.length cap)) := fun W hW => by
    have j0 := (hW.block w.heap.size (by omega)).trans k0
    have j1 := (hW.block (w.heap.size + 1) (by omega)).trans k1
    exact ⟨⟨by simp [World.cell?, j0], by simp [World.cell?, j0]⟩, by simp [World.cell?, j1], by simp [World.cell?, j1], by simp [World.cell?, j1]⟩
  have HO := specVS_any p q pt c1 c2 cap k n t xs tr W0 hx hy (hc.below hb0) (hi.below hb0)
  have HL : Hid (∀ W, Below W0.heap.size W0 W → CIn W p xs ∧ IIn W q tr ∧ BIn W pt t ∧ Below w.heap.size w W) := fun W hW => by
    have hb := Below.on hb0 hW
    exact ⟨hc.below hb, hi.below hb, hin.below hb, hb⟩
  have HE0 : Hid _ := eW0
  have HZ0 : Hid _ := hz0
  clear hc hi hin k0 k1 hz0 hb0
  rw [eW0] at HO
  clear eW0
  cases hv : vsB xs tr k n t.length
  · have HE : Hid (getA xs tr (k, n, t) = ([], 1)) := by show _ = _; unfold getA; rw [if_neg (by simp [hv])]
    rw [HE.out]
    rw [hv] at HO
    clear hv HE hbx hbc
    go_enter Try.func20, Try.ntmps20
    go_wp2_with fail
    refine HO.mono ?_
    rintro e w1 ⟨rfl, hb⟩
    rw [← HE0.out] at hb
    have HB : Hid (Below w.heap.size w w1) := (HL.out _ hb).2.2.2
    clear hb HO HL HX
    go_wp2
    exact bodyPost_ret (v := .tuple #[.slice none 0 0, .int .i64 1]) (by simp [results, Try.results20, go_sem]) rfl (CellsA.none 1 HB.out)
  · rw [hv] at HO
    obtain ⟨g, hw, ho, hoc, htl⟩ := vsB_parts (c := (k, n, t)) hv
    have hxl := g.shp.len
    have hO : OkS xs := fun a ha => ⟨ho a ha, hbx a ha⟩
    have HOP : Hid (∀ W, Below W0.heap.size W0 W → Calls Try.prog 40 #[.agg #[.slice p xs.length c1, .slice q tr.length c2]] W fun e w' => ∃ h, e = .returned (.pointer (some ⟨h, 0, none⟩)) ∧ SHp W w' h xs tr 0 ∧ Below W.heap.size W w') := fun W hW => l10open_any p q c1 c2 xs tr W hxl htl (HL.out W hW).1 (HL.out W hW).2.1
    have HGT : Hid (∀ V W h, Below W0.heap.size W0 V → SHp V W h xs tr 0 → Calls Try.prog 51 #[.pointer (some ⟨h, 0, none⟩), .agg #[.int .i64 k, .int .i64 n, .slice pt t.length cap], .slice none 0 0] W (GetOut (gF xs (gD xs (k, n, t)) (k, n, t)).cells [] W.heap.size W none)) := fun V W h hV H => l10get_any V W h xs tr 0 g hO H (gD xs (k, n, t)) (k, n, t) pt cap [] none 0 0 W.heap.size W hw hoc hbc (Nat.lt_succ_self _) (HL.out V hV).2.2.1 (OwnC.nil _ _) (Nat.le_refl _) (Nat.le_refl _) (Below.refl _ _) (by omega)
    have HA : Hid (getA xs tr (k, n, t) = if gZ xs (gD xs (k, n, t)) (k, n, t) ≤ 2000 then ((gF xs (gD xs (k, n, t)) (k, n, t)).cells, 0) else ([], 3)) := by show _ = _; unfold getA; rw [if_pos hv]
    have HZ : Hid (gZ xs (gD xs (k, n, t)) (k, n, t) = (gF xs (gD xs (k, n, t)) (k, n, t)).cells.length) := rfl
    generalize gZ xs (gD xs (k, n, t)) (k, n, t) = Z at HA HZ
    generalize (gF xs (gD xs (k, n, t)) (k, n, t)).cells = CS at HGT HA HZ
    generalize getA xs tr (k, n, t) = AA at HA ⊢
    clear hv ho hoc g hw hO htl hbx hbc
    have HKK : Hid (∀ W, Below W0.heap.size W0 W → True) := fun _ _ => trivial
    by_cases hfit : Z ≤ 2000
    · have HAF : Hid (AA = (CS, 0)) := by show _ = _; rw [HA.out, if_pos hfit]
      have HGY : Hid (∀ V W h, Below W0.heap.size W0 V → SHp V W h xs tr 0 → Calls Try.prog 51 #[.pointer (some ⟨h, 0, none⟩), .agg #[.int .i64 k, .int .i64 n, .slice pt t.length cap], .slice none 0 0] W fun e w' => ∃ p' n' c', e = .returned (.tuple #[.slice p' n' c', .bool true]) ∧ OwnC w' W.heap.size p' n' c' CS ∧ Below W.heap.size W w') := fun V W h hV H => Calls.mono (HGT.out V W h hV H) fun e w' ⟨hy', _, hg⟩ => by
        obtain ⟨p', n', c', he, hoo, _⟩ := hy' (by rw [List.length_nil, ← HZ.out]; omega)
        exact ⟨p', n', c', he, hoo, (Below.refl _ _).grown hg (Nat.le_refl _) (fun k e => by cases e)⟩
      clear HGT HA HZ hfit
      go_enter Try.func20, Try.ntmps20
      go_wp2_with fail
      refine HO.mono ?_
      rintro e w1 ⟨rfl, hb⟩
      rw [← HE0.out] at hb
      have HB1 : Hid (Below W0.heap.size W0 w1) := hb
      have HBd : Hid (Below W0.heap.size W0 (w1.drewN 1)) := below_drewN hb 1
      obtain ⟨⟨s0, s1⟩, b0, b1, b2⟩ := HX.out _ hb
      clear hb HO
      go_wp2
      go_region_held3 (fun W => (W.cell? ⟨w.heap.size, 0, none⟩ = some (.slice p xs.length c1) ∧ W.cell? ⟨w.heap.size, 1, none⟩ = some (.slice q tr.length c2)) ∧ W.cell? ⟨w.heap.size + 1, 0, none⟩ = some (.int .i64 k) ∧ W.cell? ⟨w.heap.size + 1, 1, none⟩ = some (.int .i64 n) ∧ W.cell? ⟨w.heap.size + 1, 2, none⟩ = some (.slice pt t.length cap)) (first | exact kk | go_keep)
        (first
          | (go_at_call 40; refine Calls.mono (HOP.out _ HBd.out) ?_; rintro e w2 ⟨h, rfl, hsh, hb2⟩; have HB2 : Hid (Below W0.heap.size W0 w2) := Below.on HBd.out hb2; have HG2 : Hid _ := HGY.out _ w2 h HBd.out hsh; have kk := HX.out _ HB2.out; clear hsh hb2)
          | (go_at_call 51; refine Calls.mono HG2.out ?_; rintro e w3 ⟨p3, n3, c3, rfl, ho3, hb3⟩; have HB3 : Hid (Below W0.heap.size W0 w3) := Below.on HB2.out hb3; have HO3 : Hid (OwnC w3 w2.heap.size p3 n3 c3 CS ∧ n3 = CS.length) := ⟨ho3, ho3.1⟩; have kk := HX.out _ HB3.out; clear ho3 hb3))
      all_goals
        go_wp2
        exact bodyPost_ret (v := .tuple #[.slice p3 n3 c3, .int .i64 0]) (by simp [results, Try.results20, go_sem]) rfl (by rw [HAF.out]; exact ⟨p3, c3, by rw [HO3.out.2], by have h1 := HO3.out.1; rw [HO3.out.2] at h1; exact h1.mono (Nat.le_trans (HL.out _ HB2.out).2.2.2.size (Nat.le_refl _)), (HL.out _ HB3.out).2.2.2⟩)
    · have HAF : Hid (AA = ([], 3)) := by show _ = _; rw [HA.out, if_neg hfit]
      have HGN : Hid (∀ V W h, Below W0.heap.size W0 V → SHp V W h xs tr 0 → Calls Try.prog 51 #[.pointer (some ⟨h, 0, none⟩), .agg #[.int .i64 k, .int .i64 n, .slice pt t.length cap], .slice none 0 0] W fun e w' => e = .returned (.tuple #[.slice none 0 0, .bool false]) ∧ Below W.heap.size W w') := fun V W h hV H => Calls.mono (HGT.out V W h hV H) fun e w' ⟨_, hno, hg⟩ =>
        ⟨hno (by rw [List.length_nil, ← HZ.out]; omega), (Below.refl _ _).grown hg (Nat.le_refl _) (fun k e => by cases e)⟩
      clear HGT HA HZ hfit
      go_enter Try.func20, Try.ntmps20
      go_wp2_with fail
      refine HO.mono ?_
      rintro e w1 ⟨rfl, hb⟩
      rw [← HE0.out] at hb
      have HB1 : Hid (Below W0.heap.size W0 w1) := hb
      have HBd : Hid (Below W0.heap.size W0 (w1.drewN 1)) := below_drewN hb 1
      obtain ⟨⟨s0, s1⟩, b0, b1, b2⟩ := HX.out _ hb
      clear hb HO
      go_wp2
      go_region_held3 (fun W => (W.cell? ⟨w.heap.size, 0, none⟩ = some (.slice p xs.length c1) ∧ W.cell? ⟨w.heap.size, 1, none⟩ = some (.slice q tr.length c2)) ∧ W.cell? ⟨w.heap.size + 1, 0, none⟩ = some (.int .i64 k) ∧ W.cell? ⟨w.heap.size + 1, 1, none⟩ = some (.int .i64 n) ∧ W.cell? ⟨w.heap.size + 1, 2, none⟩ = some (.slice pt t.length cap)) (first | exact kk | go_keep)
        (first
          | (go_at_call 40; refine Calls.mono (HOP.out _ HBd.out) ?_; rintro e w2 ⟨h, rfl, hsh, hb2⟩; have HB2 : Hid (Below W0.heap.size W0 w2) := Below.on HBd.out hb2; have HG2 : Hid _ := HGN.out _ w2 h HBd.out hsh; have kk := HX.out _ HB2.out; clear hsh hb2)
          | (go_at_call 51; refine Calls.mono HG2.out ?_; rintro e w3 ⟨rfl, hb3⟩; have HB3 : Hid (Below W0.heap.size W0 w3) := Below.on HB2.out hb3; have kk := HX.out _ HB3.out; clear hb3))
      all_goals
        go_wp2
        exact bodyPost_ret (v := .tuple #[.slice none 0 0, .int .i64 3]) (by simp [results, Try.results20, go_sem]) rfl (by rw [HAF.out]; exact CellsA.none 3 (HL.out _ HB3.out).2.2.2)

set_option maxHeartbeats 1000000 in
set_option maxRecDepth 100000 in
theorem implGet_any (p q pt : Option Addr) (c1 c2 cap : Nat) (c : Cel) (xs : List Cel) (tr : List Int) (w : World) (hx : xs.length ≤ 1000000000) (hy : tr.length ≤ 1000000000) (hbx : ∀ a, a < xs.length → Byte (xs.getD a Cel.none).2.2) (hbc : Byte c.2.2) (hc : CIn w p xs) (hi : IIn w q tr) (hin : BIn w pt c.2.2) :
    Calls Try.prog 21 #[.agg #[.slice p xs.length c1, .slice q tr.length c2], .agg #[.int .i64 c.1, .int .i64 c.2.1, .slice pt c.2.2.length cap]] w (CellsA (getA xs tr c) w) := by
  obtain ⟨k, n, t⟩ := c
  obtain ⟨W0, eW0⟩ : ∃ W0, W0 = (w.alloc (.cells #[.slice p xs.length c1, .slice q tr.length c2] 36)).alloc (.cells #[.int .i64 k, .int .i64 n, .slice pt t.length cap] 31) := ⟨_, rfl⟩
  have hb0 : Below w.heap.size w W0 := by rw [eW0]; exact ((Below.refl _ _).alloc (Nat.le_refl _) _).alloc (by simp) _
  have HO := heapWith_any p q pt c1 c2 cap k n t xs tr W0 hx hy (hc.below hb0) (hi.below hb0) (hin.below hb0)
  have HE0 : Hid _ := eW0
  have HB0 : Hid _ := hb0
  clear hc hi hin hb0
  unfold WithOut at HO
  rw [eW0] at HO
  clear eW0
  cases hv : vsB xs tr k n t.length
  · have HE : Hid (getA xs tr (k, n, t) = ([], 1)) := by show _ = _; unfold getA; rw [if_neg (by simp [hv])]
    rw [HE.out]
    rw [hv] at HO
    clear hv HE hbx hbc
    go_enter Try.func21, Try.ntmps21
    go_wp2_with fail
    refine HO.mono ?_
    rintro e w1 ⟨v, u, rfl, hb, _⟩
    rw [← HE0.out] at hb
    have HB : Hid (Below w.heap.size w w1) := Below.on HB0.out hb
    clear hb HO
    go_wp2
    exact bodyPost_ret (v := .tuple #[.slice none 0 0, .int .i64 1]) (by simp [results, Try.results21, go_sem]) rfl (CellsA.none 1 HB.out)
  · rw [hv] at HO
    obtain ⟨g, hw, ho, hoc, htl⟩ := vsB_parts (c := (k, n, t)) hv
    have hO : OkS xs := fun a ha => ⟨ho a ha, hbx a ha⟩
    have HTM : Hid (∀ h W, HeapAt W h xs tr → Calls Try.prog 52 #[.pointer (some ⟨h, 0, none⟩), wv (k, n, t), .int .i64 2000] W (GtOut (gF xs (gD xs (k, n, t)) (k, n, t)) 2000 W)) := fun h W hW => term_any h xs tr g hO (gD xs (k, n, t)) (k, n, t) 2000 W hw (Nat.lt_succ_self _) (by decide) (by decide) hW
    have HOK : Hid (gF xs (gD xs (k, n, t)) (k, n, t)).ok := gF_ok g hO _ _ hw hoc hbc (Nat.lt_succ_self _)
    have HA : Hid (getA xs tr (k, n, t) = if gZ xs (gD xs (k, n, t)) (k, n, t) ≤ 2000 then ((gF xs (gD xs (k, n, t)) (k, n, t)).cells, 0) else ([], 3)) := by show _ = _; unfold getA; rw [if_pos hv]
    have HZ : Hid (gZ xs (gD xs (k, n, t)) (k, n, t) = (gF xs (gD xs (k, n, t)) (k, n, t)).cells.length) := rfl
    have HON : Hid (∃ d kd, gF xs (gD xs (k, n, t)) (k, n, t) = .node d kd .nil) := gF_one _ _ _
    generalize gZ xs (gD xs (k, n, t)) (k, n, t) = Z at HA HZ
    generalize gF xs (gD xs (k, n, t)) (k, n, t) = Fx at HTM HOK HA HZ HON
    generalize getA xs tr (k, n, t) = AA at HA ⊢
    clear hv ho hoc g hw hO htl hbx hbc
    obtain ⟨d, kd, rfl⟩ := HON.out
    clear HON
    by_cases hfit : Z ≤ 2000
    · have HAF : Hid (AA = ((Fo.node d kd .nil).cells, 0)) := by show _ = _; rw [HA.out, if_pos hfit]
      have hlr : leftR 2000 (Fo.node d kd .nil).cells.length = 2000 - (Z : Int) := by unfold leftR; rw [← HZ.out, if_pos (by omega)]
      have HTY : Hid (∀ h W, HeapAt W h xs tr → Calls Try.prog 52 #[.pointer (some ⟨h, 0, none⟩), wv (k, n, t), .int .i64 2000] W fun e w' => ∃ ty y, e = .returned (.tuple #[.iface ty y, .int .i64 (2000 - (Z : Int))]) ∧ FoIn w' W.heap.size (.node d kd .nil) [.iface ty y] ∧ Below W.heap.size W w') := fun h W hW => Calls.mono (HTM.out h W hW) fun e w' ⟨ty, y, he, hfo, hb⟩ => ⟨ty, y, by rw [he, hlr], hfo (by rw [← HZ.out]; omega), hb⟩
      have HCL : Hid (∀ ty y W Bt, FoIn W Bt (.node d kd .nil) [.iface ty y] → Calls Try.prog 53 #[.iface ty y] W fun e w' => ∃ p n cp, e = .returned (.slice p n cp) ∧ OwnC w' W.heap.size p n cp (Fo.node d kd .nil).cells ∧ Below W.heap.size W w') := fun ty y W Bt hfo => by
        have := cellsOf_any d kd (.iface ty y) Bt W HOK.out hfo (by have h1 := HZ.out; simp [Fo.cells] at h1; omega)
        simpa [Fo.cells] using this
      have hnz : ¬ (2000 - (Z : Int) < 0) := by omega
      clear HTM HA hlr HOK HZ
      generalize wv (k, n, t) = vw at HO HTY
      go_enter Try.func21, Try.ntmps21
      go_wp2_with fail
      refine HO.mono ?_
      rintro e w1 ⟨v, u, rfl, hb, hh⟩
      obtain ⟨h, rfl, rfl, hat⟩ := hh (by trivial)
      rw [← HE0.out] at hb
      have HB1 : Hid (Below w.heap.size w w1) := Below.on HB0.out hb
      have HT1 : Hid _ := HTY.out h w1 hat
      clear hb HO hh hat HTY
      go_wp2_with fail
      refine Calls.mono HT1.out ?_
      rintro e w2 ⟨ty, y, rfl, hfo, hb2⟩
      have HB2 : Hid (Below w.heap.size w w2) := Below.on HB1.out hb2
      have HC2 : Hid _ := HCL.out ty y w2 _ hfo
      clear hfo hb2 HT1 HCL
      go_wp2_with fail
      refine Calls.mono HC2.out ?_
      rintro e w3 ⟨p3, n3, c3, rfl, ho3, hb3⟩
      have HO3 : Hid (OwnC w3 w2.heap.size p3 n3 c3 (Fo.node d kd .nil).cells ∧ n3 = (Fo.node d kd .nil).cells.length) := ⟨ho3, ho3.1⟩
      have HB3 : Hid (Below w.heap.size w w3) := Below.on HB2.out hb3
      clear ho3 hb3 HC2
      go_wp2
      exact bodyPost_ret (v := .tuple #[.slice p3 n3 c3, .int .i64 0]) (by simp [results, Try.results21, go_sem]) rfl (by rw [HAF.out]; exact ⟨p3, c3, by rw [HO3.out.2], by have h1 := HO3.out.1; rw [HO3.out.2] at h1; exact h1.mono HB2.out.size, HB3.out⟩)
    · have HAF : Hid (AA = ([], 3)) := by show _ = _; rw [HA.out, if_neg hfit]
      have hlr : leftR 2000 (Fo.node d kd .nil).cells.length = -1 := by unfold leftR; rw [← HZ.out, if_neg (by omega)]
      have HTN : Hid (∀ h W, HeapAt W h xs tr → Calls Try.prog 52 #[.pointer (some ⟨h, 0, none⟩), wv (k, n, t), .int .i64 2000] W fun e w' => ∃ ty y, e = .returned (.tuple #[.iface ty y, .int .i64 (-1)]) ∧ Below W.heap.size W w') := fun h W hW => Calls.mono (HTM.out h W hW) fun e w' ⟨ty, y, he, _, hb⟩ => ⟨ty, y, by rw [he, hlr], hb⟩
      clear HTM HA hlr HOK HZ
      generalize wv (k, n, t) = vw at HO HTN
      go_enter Try.func21, Try.ntmps21
      go_wp2_with fail
      refine HO.mono ?_
      rintro e w1 ⟨v, u, rfl, hb, hh⟩
      obtain ⟨h, rfl, rfl, hat⟩ := hh (by trivial)
      rw [← HE0.out] at hb
      have HB1 : Hid (Below w.heap.size w w1) := Below.on HB0.out hb
      have HT1 : Hid _ := HTN.out h w1 hat
      clear hb HO hh hat HTN
      go_wp2_with fail
      refine Calls.mono HT1.out ?_
      rintro e w2 ⟨ty, y, rfl, hb2⟩
      have HB2 : Hid (Below w.heap.size w w2) := Below.on HB1.out hb2
      clear hb2 HT1
      go_wp2
      exact bodyPost_ret (v := .tuple #[.slice none 0 0, .int .i64 3]) (by simp [results, Try.results21, go_sem]) rfl (by rw [HAF.out]; exact CellsA.none 3 HB2.out)

end Go.Proofs.Ytfnmoaiejpkocaa

