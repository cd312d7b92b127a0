/- Texts of Tree5, FunG, NbI1. Own work of the verifier. -/
import Derived.Test.YtemohfhblpejmaaDoorUqag
import Derived.Deep.RegionLaw
import Derived.Deep.Cut
import Derived.Test.YtemohfhblpejmaaDoorUqad
namespace Go.Proofs.YtemohfhblpejmaaDoor
open Go Go.RowKit
set_option linter.unusedVariables false

/-- A compound's block and its arguments' row. -/
def CompAt (w : World) (B : Nat) (s : List Int) (k : Fo) (b g : Nat) (vs : List Value) : Prop :=
  B ≤ b ∧ B ≤ g ∧ w.cell? ⟨b, 0, none⟩ = some (.string (strOfNums s)) ∧ w.cell? ⟨b, 1, none⟩ = some (.slice (some ⟨g, 0, none⟩) vs.length vs.length) ∧ g < w.heap.size ∧ (∀ i, i < vs.length → w.cell? ⟨g, i, none⟩ = some (vs.getD i .nilIface)) ∧ FoIn w B k vs

set_option maxRecDepth 20000 in
set_option maxHeartbeats 2000000 in
theorem appComp_any : ∀ (N : Nat) (s : List Int) (k : Fo) (b g : Nat) (vs : List Value) (p : Option Addr) (n cp : Nat) (cs : List Cel) (Bt B : Nat) (w0 w : World), k.cells.length ≤ N → k.ok → Byte s → CompAt w0 Bt s k b g vs → Below w0.heap.size w0 w → w0.heap.size ≤ B → B ≤ w.heap.size →
    OwnC w B p n cp cs → n + 1 + k.cells.length ≤ 1000000 → Calls Tryd.prog 114 #[.pointer (some ⟨b, 0, none⟩), .slice p n cp] w (AppOut w B cs ((3, k.count, s) :: k.cells)) := by
  intro N
  induction N using Nat.strongRecOn with
  | _ N ih =>
    intro s k b g vs p n cp cs Bt B w0 w hN hok hs hcomp hw hB0 hB ho hn
    have HO : Hid (OwnC w B p n cp cs) := ho
    have HC : Hid (CompAt w0 Bt s k b g vs) := hcomp
    have HW : Hid (Below w0.heap.size w0 w) := hw
    obtain ⟨w1, cap1, hcv, hb1, ht⟩ := conv_bytes w.drew s hs 9 Tryd.underlying9
    have hvl : vs.length = k.count := FoIn.count _ _ hcomp.2.2.2.2.2.2
    have c0 := (hw.cell (World.block_lt_of_cell? _ _ hcomp.2.2.1)).trans hcomp.2.2.1
    have c1 := (hw.cell (World.block_lt_of_cell? _ _ hcomp.2.2.2.1)).trans hcomp.2.2.2.1
    have hw1 : Below w.heap.size w w1 := (Below.refl _ _).drew.trans hb1
    have d0 := (hw1.cell (World.block_lt_of_cell? _ _ c0)).trans c0
    have d1 := (hw1.cell (World.block_lt_of_cell? _ _ c1)).trans c1
    obtain ⟨m, em⟩ : ∃ m, m = s.length := ⟨_, rfl⟩
    obtain ⟨str, es⟩ : ∃ str, str = strOfNums s := ⟨_, rfl⟩
    obtain ⟨q, eq⟩ : ∃ q, q = vs.length := ⟨_, rfl⟩
    rw [← em] at hcv ht
    rw [← es] at hcv c0 d0
    rw [← eq] at c1 d1
    have hs1 := hb1.size
    have hcv' : (convert 9 32 (.string str)).run Tryd.prog w.drew = .ok (.slice (some ⟨w.heap.size, 0, none⟩) m cap1) w1 := hcv
    have ht' : OwnT w1 w.heap.size (some ⟨w.heap.size, 0, none⟩) m cap1 s := ht
    have hb : Below w1.heap.size w1 (w1.alloc (Obj.cells #[Value.int IntKind.i64 3, Value.int IntKind.i64 q, Value.slice (some ⟨w.heap.size, 0, none⟩) m cap1] 36)) := (Below.refl _ _).alloc (Nat.le_refl _) _
    have HB : Hid (Below w.heap.size w (w1.alloc (Obj.cells #[Value.int IntKind.i64 3, Value.int IntKind.i64 q, Value.slice (some ⟨w.heap.size, 0, none⟩) m cap1] 36))) := Below.on hw1 hb
    have HT : Hid (OwnT (w1.alloc (Obj.cells #[Value.int IntKind.i64 3, Value.int IntKind.i64 q, Value.slice (some ⟨w.heap.size, 0, none⟩) m cap1] 36)) w.heap.size (some ⟨w.heap.size, 0, none⟩) m cap1 s) := ht'.below hb
    have HX : Hid (Box3 (w1.alloc (Obj.cells #[Value.int IntKind.i64 3, Value.int IntKind.i64 q, Value.slice (some ⟨w.heap.size, 0, none⟩) m cap1] 36)) w1.heap.size (.int .i64 3) (.int .i64 q) (.slice (some ⟨w.heap.size, 0, none⟩) m cap1)) := Box3.of_block (t := 36) (heap_alloc_new _ _)
    have HIH : Hid _ := ih
    have HE : Hid (q = vs.length ∧ vs.length = k.count) := ⟨eq, hvl⟩
    have hq : q ≤ 1000000 := by have := Fo.count_le k; omega
    clear ih ho hcomp hw em es eq hvl hb1 ht ht' hcv hb hw1
    go_enter Tryd.func114, Tryd.ntmps114
    go_upto_region 1 with fail
    go_cut [1] from 7 (fun v wc => ∃ g2 n2 c2, v = .slice (some ⟨g2, 0, none⟩) n2 c2 ∧ Hid (OwnC wc B (some ⟨g2, 0, none⟩) n2 c2 (cs ++ [((3, (q : Int), s) : Cel)])) ∧ Hid (Below B w wc) ∧ n2 = n + 1)
    case first =>
      go_region_law (refine step_app_cell w _ rfl _ _ rfl B p n cp cs rfl HO.out HB.out hB ⟨w1.heap.size, 0, none⟩ 1 rfl 3 q (some ⟨w.heap.size, 0, none⟩) m cap1 s HT.out (news_rc HX.out) (by omega) ?_; intro g1 n1 cap2 w2 hown1 hb2 hn1)
      all_goals go_wp2_with fail
      all_goals go_meet
      all_goals exact ⟨g1, n1, cap2, rfl, hown1, (HB.out.mono hB).trans hb2, hn1⟩
    case rest =>
      obtain ⟨g2, n2, c2, rfl, HO2, HB2, hn2⟩ := hcut
      have e1 : wc.cell? ⟨b, 1, none⟩ = some (.slice (some ⟨g, 0, none⟩) q q) := (HB2.out.cell (p := ⟨b, 1, none⟩) (by have := World.block_lt_of_cell? _ _ HC.out.2.2.2.1; show b < B; simp at this; omega)).trans c1
      clear c0 c1 d0 d1 hcv' HO HB HT HX
      go_wp2_with fail
      go_loopw [1, 26] (fun v i wr => ∃ (D R : Fo) (us vs2 : List Value) (j : Nat) (p4 : Option Addr) (n4 c4 : Nat), j ≤ q ∧ n4 ≤ 1000000 ∧ i = .int .i64 j ∧ v = .slice p4 n4 c4 ∧ Hid (k = D.cat R ∧ vs = us ++ vs2 ∧ us.length = j ∧ n4 = n + 1 + D.cells.length) ∧ Hid (FoIn w0 Bt R vs2) ∧
        Hid (OwnC wr B p4 n4 c4 (cs ++ ((3, (q : Int), s) : Cel) :: D.cells)) ∧ Hid (Below B w wr)) (fun _ i _ => q - (intOf i).toNat)
      case atStart => exact ⟨.nil, k, [], vs, 0, _, _, _, Nat.zero_le _, by omega, rfl, rfl, ⟨rfl, rfl, rfl, by simp [Fo.cells, hn2]⟩, HC.out.2.2.2.2.2.2, HO2, HB2⟩
      case round =>
        obtain ⟨D, R, us, vs2, j, p4, n4, c4, hj, hn4, rfl, rfl, HF, HR, HO4, HB4⟩ := hrel
        by_cases hlt : j < q
        · obtain ⟨c', k', r', rfl⟩ : ∃ c' k' r', R = .node c' k' r' := by
            cases R with
            | nil =>
              have h1 := HF.out
              have h2 : vs2 = [] := HR.out
              have h3 := HE.out.1
              rw [h1.2.1, h2, List.append_nil] at h3
              omega
            | node c' k' r' => exact ⟨c', k', r', rfl⟩
          obtain ⟨v, vr, rfl, hnode, hrest⟩ := HR.out
          have hok2 := (Fo.ok_cat D (.node c' k' r')).1 (HF.out.1 ▸ hok)
          have hlen : D.cells.length + (k'.cells.length + r'.cells.length + 1) = k.cells.length := by
            rw [HF.out.1, Fo.cells_cat]; simp [Fo.cells]
          have hat : w0.cell? ⟨g, j, none⟩ = some v := by
            rw [HC.out.2.2.2.2.2.1 j (by rw [← HE.out.1]; exact hlt), HF.out.2.1]
            simp [List.getD, HF.out.2.2.1]
          have hwr : Below w0.heap.size w0 wr := HW.out.trans (HB4.out.mono hB0)
          have c5 : wr.cell? ⟨g, j, none⟩ = some v := (hwr.cell (World.block_lt_of_cell? _ _ hat)).trans hat
          have next : ∀ p3 n3 c3 w3, OwnC w3 B p3 n3 c3 ((cs ++ ((3, (q : Int), s) : Cel) :: D.cells) ++ (c' :: k'.cells)) → Below B wr w3 →
              ∃ (D R : Fo) (us vs2 : List Value) (j' : Nat) (p4 : Option Addr) (n4 c4 : Nat), j' ≤ q ∧ n4 ≤ 1000000 ∧ Value.int .i64 ((j : Int) + 1) = .int .i64 j' ∧ Value.slice p3 n3 c3 = .slice p4 n4 c4 ∧ Hid (k = D.cat R ∧ vs = us ++ vs2 ∧ us.length = j' ∧ n4 = n + 1 + D.cells.length) ∧ Hid (FoIn w0 Bt R vs2) ∧
                Hid (OwnC w3 B p4 n4 c4 (cs ++ ((3, (q : Int), s) : Cel) :: D.cells)) ∧ Hid (Below B w w3) := fun p3 n3 c3 w3 h1 h2 => by
            have e3 := h1.1
            have e4 := HO4.out.1
            have e5 := HF.out.2.2.2
            simp only [List.length_append, List.length_cons] at e3 e4
            refine ⟨D.cat (.node c' k' .nil), r', us ++ [v], vr, j + 1, p3, n3, c3, by omega, by omega, by go_num, rfl, ⟨by rw [Fo.cat_assoc]; exact HF.out.1, by rw [HF.out.2.1]; simp, by simp [HF.out.2.2.1], ?_⟩, hrest, ?_, HB4.out.trans h2⟩
            · rw [Fo.cells_cat]; simp [Fo.cells]; omega
            · show OwnC _ _ _ _ _ _
              rw [Fo.cells_cat]; simpa [Fo.cells] using h1
          have NEXT : Hid _ := next
          clear next
          have hB4 : B ≤ wr.heap.size := Nat.le_trans hB HB4.out.size
          rcases hnode with ⟨h0, rfl⟩ | ⟨h0, rfl⟩ | ⟨h0, rfl⟩ | ⟨h0, b5, g5, kv, rfl, h5⟩
          · have hk' : k' = .nil := hok2.2.2.2.2.1 (by rw [h0]; decide)
            have hcl := hok2.2.1
            obtain ⟨c0, c1, c2'⟩ := c'
            simp only at h0 hcl
            subst h0 hk'
            have e : c2' = [] := by simp [cellB] at hcl; exact hcl.2.2
            subst e
            have HS := appVar_any c1 p4 n4 c4 _ B wr hB4 (by omega) HO4.out
            clear hok2 hlen hat hcl hrest hwr HO4 HR HIH
            go_wp2_with fail
            refine HS.mono ?_
            rintro e w3 ⟨p3, n3, c3, rfl, hown3, hb3⟩
            go_wp2_with fail
            go_roundw
            case rel => exact NEXT.out p3 n3 c3 w3 hown3 hb3
            case measure => simp [intOf]; omega
          · have hk' : k' = .nil := hok2.2.2.2.2.1 (by rw [h0]; decide)
            have hcl := hok2.2.1
            obtain ⟨c0, c1, c2'⟩ := c'
            simp only at h0 hcl
            subst h0 hk'
            have e : c2' = [] := by simp [cellB] at hcl; exact hcl.2.2
            subst e
            have HS := appNum_any c1 p4 n4 c4 _ B wr hB4 (by omega) HO4.out
            clear hok2 hlen hat hcl hrest hwr HO4 HR HIH
            go_wp2_with fail
            refine HS.mono ?_
            rintro e w3 ⟨p3, n3, c3, rfl, hown3, hb3⟩
            go_wp2_with fail
            go_roundw
            case rel => exact NEXT.out p3 n3 c3 w3 hown3 hb3
            case measure => simp [intOf]; omega
          · have hk' : k' = .nil := hok2.2.2.2.2.1 (by rw [h0]; decide)
            have hcl := hok2.2.1
            have hby := hok2.2.2.1
            obtain ⟨c0, c1, c2'⟩ := c'
            simp only at h0 hcl hby c5
            subst h0 hk'
            have e : c1 = 0 := by simp [cellB] at hcl; exact hcl.2
            subst e
            have HS := appAtom_any c2' hby p4 n4 c4 _ B wr hB4 (by omega) HO4.out
            obtain ⟨st, est⟩ : ∃ st, st = strOfNums c2' := ⟨_, rfl⟩
            rw [← est] at HS c5
            clear hok2 hlen hat hcl hrest hwr HO4 HR HIH hby est
            go_wp2_with fail
            refine HS.mono ?_
            rintro e w3 ⟨p3, n3, c3, rfl, hown3, hb3⟩
            go_wp2_with fail
            go_roundw
            case rel => exact NEXT.out p3 n3 c3 w3 hown3 hb3
            case measure => simp [intOf]; omega
          · have hcl := hok2.2.1
            have hby := hok2.2.2.1
            have hcn := hok2.2.2.2.1 h0
            obtain ⟨c0, c1, c2'⟩ := c'
            simp only at h0 hcl hby hcn h5
            subst h0 hcn
            have HS := HIH.out k'.cells.length (by omega) c2' k' b5 g5 kv p4 n4 c4 _ Bt B w0 wr (Nat.le_refl _) hok2.2.2.2.2.2.1 hby h5 hwr hB0 hB4 HO4.out (by have := HF.out.2.2.2; omega)
            clear hok2 hlen hat hcl hrest hwr HO4 HR HIH hby h5
            go_wp2_with fail
            refine HS.mono ?_
            rintro e w3 ⟨p3, n3, c3, rfl, hown3, hb3⟩
            go_wp2_with fail
            go_roundw
            case rel => exact NEXT.out p3 n3 c3 w3 hown3 hb3
            case measure => simp [intOf]; omega
        · obtain rfl : j = q := by omega
          obtain rfl : R = .nil := by
            have h1 := FoIn.count _ _ HR.out
            have h2 := HE.out
            rw [HF.out.2.1, List.length_append] at h2
            have h3 := HF.out.2.2.1
            cases R with
            | nil => rfl
            | node a b d => simp [Fo.count] at h1; omega
          have HF' : Hid (D = k) := by have := HF.out.1; rw [Fo.cat_nil] at this; exact this.symm
          go_wp2_with fail
          go_ret
          refine ⟨_, _, _, rfl, ?_, HB4.out⟩
          have h1 := HO4.out
          rw [HF'.out, HE.out.1, HE.out.2] at h1
          exact h1

end Go.Proofs.YtemohfhblpejmaaDoor

namespace Go.Proofs.YtemohfhblpejmaaDoor
open Go Go.RowKit
set_option linter.unusedVariables false

theorem noAtom_comp (w : World) (x : Value) : (Instr.typeAssert (.iface 84 x) 40 82 true).run Tryd.prog w = .ok (.tuple #[.string ⟨#[]⟩, .bool false]) w := by kernel_rfl
theorem isAtom (w : World) (x : Value) : (Instr.typeAssert (.iface 82 x) 40 82 true).run Tryd.prog w = .ok (.tuple #[x, .bool true]) w := by kernel_rfl
set_option maxRecDepth 100000 in
theorem functor_any (b g q : Nat) (str : ByteArray) (w : World) (h0 : w.cell? ⟨b, 0, none⟩ = some (.string str)) (h1 : w.cell? ⟨b, 1, none⟩ = some (.slice (some ⟨g, 0, none⟩) q q)) :
    Calls Tryd.prog 57 #[.pointer (some ⟨b, 0, none⟩)] w fun e w' => e = .returned (.agg #[.string str, .int .i64 q]) ∧ Below w.heap.size w w' := by
  have a0 : ∀ x, (w.alloc x).cell? ⟨b, 0, none⟩ = some (.string str) := fun x => Lib.cell?_alloc_marked x h0
  have a1 : ∀ x, (w.alloc x).cell? ⟨b, 1, none⟩ = some (.slice (some ⟨g, 0, none⟩) q q) := fun x => Lib.cell?_alloc_marked x h1
  go_enter Tryd.func57, Tryd.ntmps57
  go_wp2_with fail
  go_region
  all_goals go_wp2_with fail
  all_goals exact bodyPost_ret (v := .agg #[.string str, .int .i64 q]) (by simp [results, Tryd.results57, go_sem]) rfl ⟨rfl, ((Below.refl _ _).alloc (Nat.le_refl _) _).drew⟩

end Go.Proofs.YtemohfhblpejmaaDoor

namespace Go.Proofs.YtemohfhblpejmaaDoor
open Go Go.RowKit
set_option linter.unusedVariables false

theorem nbA_var_var (w : World) (x : Value) : (Instr.typeAssert (.iface 90 x) 40 90 true).run Tryd.prog w = .ok (.tuple #[x, .bool true]) w := by kernel_rfl
theorem nbA_var_num (w : World) (x : Value) : (Instr.typeAssert (.iface 90 x) 40 101 true).run Tryd.prog w = .ok (.tuple #[.int .i64 0, .bool false]) w := by kernel_rfl
theorem nbA_var_atom (w : World) (x : Value) : (Instr.typeAssert (.iface 90 x) 40 82 true).run Tryd.prog w = .ok (.tuple #[.string ⟨#[]⟩, .bool false]) w := by kernel_rfl
theorem nbA_var_comp (w : World) (x : Value) : (Instr.typeAssert (.iface 90 x) 40 84 true).run Tryd.prog w = .ok (.tuple #[.pointer none, .bool false]) w := by kernel_rfl
theorem nbA_num_var (w : World) (x : Value) : (Instr.typeAssert (.iface 101 x) 40 90 true).run Tryd.prog w = .ok (.tuple #[.int .i64 0, .bool false]) w := by kernel_rfl
theorem nbA_num_num (w : World) (x : Value) : (Instr.typeAssert (.iface 101 x) 40 101 true).run Tryd.prog w = .ok (.tuple #[x, .bool true]) w := by kernel_rfl
theorem nbA_num_atom (w : World) (x : Value) : (Instr.typeAssert (.iface 101 x) 40 82 true).run Tryd.prog w = .ok (.tuple #[.string ⟨#[]⟩, .bool false]) w := by kernel_rfl
theorem nbA_num_comp (w : World) (x : Value) : (Instr.typeAssert (.iface 101 x) 40 84 true).run Tryd.prog w = .ok (.tuple #[.pointer none, .bool false]) w := by kernel_rfl
theorem nbA_atom_var (w : World) (x : Value) : (Instr.typeAssert (.iface 82 x) 40 90 true).run Tryd.prog w = .ok (.tuple #[.int .i64 0, .bool false]) w := by kernel_rfl
theorem nbA_atom_num (w : World) (x : Value) : (Instr.typeAssert (.iface 82 x) 40 101 true).run Tryd.prog w = .ok (.tuple #[.int .i64 0, .bool false]) w := by kernel_rfl
theorem nbA_atom_atom (w : World) (x : Value) : (Instr.typeAssert (.iface 82 x) 40 82 true).run Tryd.prog w = .ok (.tuple #[x, .bool true]) w := by kernel_rfl
theorem nbA_atom_comp (w : World) (x : Value) : (Instr.typeAssert (.iface 82 x) 40 84 true).run Tryd.prog w = .ok (.tuple #[.pointer none, .bool false]) w := by kernel_rfl
theorem nbA_comp_var (w : World) (x : Value) : (Instr.typeAssert (.iface 84 x) 40 90 true).run Tryd.prog w = .ok (.tuple #[.int .i64 0, .bool false]) w := by kernel_rfl
theorem nbA_comp_num (w : World) (x : Value) : (Instr.typeAssert (.iface 84 x) 40 101 true).run Tryd.prog w = .ok (.tuple #[.int .i64 0, .bool false]) w := by kernel_rfl
theorem nbA_comp_atom (w : World) (x : Value) : (Instr.typeAssert (.iface 84 x) 40 82 true).run Tryd.prog w = .ok (.tuple #[.string ⟨#[]⟩, .bool false]) w := by kernel_rfl
theorem nbA_comp_comp (w : World) (x : Value) : (Instr.typeAssert (.iface 84 x) 40 84 true).run Tryd.prog w = .ok (.tuple #[x, .bool true]) w := by kernel_rfl
theorem nbKind_var (x : Value) (w : World) : Calls Tryd.prog 82 #[.iface 90 x] w fun e w' => e = .returned (.int .i64 0) ∧ w' = w := by
  have n_var := nbA_var_var
  have n_num := nbA_var_num
  have n_atom := nbA_var_atom
  go_enter Tryd.func82, Tryd.ntmps82
  go_wp2_with fail
  go_ret
  exact ⟨rfl, rfl⟩
theorem nbIsVar_var (x : Value) (w : World) : Calls Tryd.prog 64 #[.iface 90 x] w fun e w' => e = .returned (.bool true) ∧ w' = w := by
  have hk := nbKind_var x w
  go_enter Tryd.func64, Tryd.ntmps64
  go_wp2_with (go_at_call 82; refine hk.mono ?_; rintro e w' ⟨rfl, rfl⟩)
  go_ret
  exact ⟨rfl, rfl⟩
theorem nbKind_num (x : Value) (w : World) : Calls Tryd.prog 82 #[.iface 101 x] w fun e w' => e = .returned (.int .i64 1) ∧ w' = w := by
  have n_var := nbA_num_var
  have n_num := nbA_num_num
  have n_atom := nbA_num_atom
  go_enter Tryd.func82, Tryd.ntmps82
  go_wp2_with fail
  go_ret
  exact ⟨rfl, rfl⟩
theorem nbIsVar_num (x : Value) (w : World) : Calls Tryd.prog 64 #[.iface 101 x] w fun e w' => e = .returned (.bool false) ∧ w' = w := by
  have hk := nbKind_num x w
  go_enter Tryd.func64, Tryd.ntmps64
  go_wp2_with (go_at_call 82; refine hk.mono ?_; rintro e w' ⟨rfl, rfl⟩)
  go_ret
  exact ⟨rfl, rfl⟩
theorem nbKind_atom (x : Value) (w : World) : Calls Tryd.prog 82 #[.iface 82 x] w fun e w' => e = .returned (.int .i64 2) ∧ w' = w := by
  have n_var := nbA_atom_var
  have n_num := nbA_atom_num
  have n_atom := nbA_atom_atom
  go_enter Tryd.func82, Tryd.ntmps82
  go_wp2_with fail
  go_ret
  exact ⟨rfl, rfl⟩
theorem nbIsVar_atom (x : Value) (w : World) : Calls Tryd.prog 64 #[.iface 82 x] w fun e w' => e = .returned (.bool false) ∧ w' = w := by
  have hk := nbKind_atom x w
  go_enter Tryd.func64, Tryd.ntmps64
  go_wp2_with (go_at_call 82; refine hk.mono ?_; rintro e w' ⟨rfl, rfl⟩)
  go_ret
  exact ⟨rfl, rfl⟩
theorem nbKind_comp (x : Value) (w : World) : Calls Tryd.prog 82 #[.iface 84 x] w fun e w' => e = .returned (.int .i64 3) ∧ w' = w := by
  have n_var := nbA_comp_var
  have n_num := nbA_comp_num
  have n_atom := nbA_comp_atom
  go_enter Tryd.func82, Tryd.ntmps82
  go_wp2_with fail
  go_ret
  exact ⟨rfl, rfl⟩
theorem nbIsVar_comp (x : Value) (w : World) : Calls Tryd.prog 64 #[.iface 84 x] w fun e w' => e = .returned (.bool false) ∧ w' = w := by
  have hk := nbKind_comp x w
  go_enter Tryd.func64, Tryd.ntmps64
  go_wp2_with (go_at_call 82; refine hk.mono ?_; rintro e w' ⟨rfl, rfl⟩)
  go_ret
  exact ⟨rfl, rfl⟩
theorem nbFunAtom (s : ByteArray) (w : World) : Calls Tryd.prog 56 #[.string s] w fun e w' => e = .returned (.agg #[.string s, .int .i64 0]) ∧ Below w.heap.size w w' := by
  go_enter Tryd.func56, Tryd.ntmps56
  go_wp2_with fail
  exact bodyPost_ret (v := .agg #[.string s, .int .i64 0]) (by simp [results, Tryd.results56, go_sem]) rfl ⟨rfl, (Below.refl _ _).alloc (Nat.le_refl _) _⟩
end Go.Proofs.YtemohfhblpejmaaDoor

