/- Texts of Stk4, Stk5, ClC, ClK, DolP. Own work of the verifier. -/
import Derived.Test.YtfgaenggbbgboaaGreatDoorUqam
import Derived.Deep.LoopGhost
import Derived.Test.YtfgaenggbbgboaaGreatDoorUqak
import Derived.Test.YtfgaenggbbgboaaGreatDoorUqal
import Derived.Test.YtfgaenggbbgboaaGreatDoorUqag
import Derived.Test.YtfgaenggbbgboaaGreatDoorUqaa
namespace Go.Proofs.YtfgaenggbbgboaaGreatDoor
open Go Go.RowKit Go.Shelf
set_option linter.unusedVariables false
attribute [local go_sem] Oper.semAt_some
set_option maxRecDepth 100000 in
set_option maxHeartbeats 4000000 in
theorem openComp_wide (W0 : World) (Bt : Nat) (w : World) (B sb so : Nat) (p0 : Option Addr) (n0 c0 : Nat) (st : List TT) (x : TT) (b1 g1 b2 g2 : Nat) (vs1 vs2 : List Value) (h : Stk W0 Bt w B sb so p0 n0 c0 st) (hW : Below W0.heap.size W0 w) (hB0 : W0.heap.size ≤ B) (hBs : B ≤ sb) (hn : n0 ≤ 1000000)
    (hc1 : CompAt W0 Bt x.1.1.2.2 x.1.2 b1 g1 vs1) (hc2 : CompAt W0 Bt x.2.1.2.2 x.2.2 b2 g2 vs2) (ho1 : x.1.ok) (ho2 : x.2.ok) (h31 : x.1.1.1 = 3) (h32 : x.2.1.1 = 3) :
    CallsIn Fence.wide 3 Tryz.prog 80 #[.pointer (some ⟨sb, so, none⟩), .agg #[.iface 122 (.pointer (some ⟨b1, 0, none⟩)), .iface 122 (.pointer (some ⟨b2, 0, none⟩))]] w (OpenOut W0 Bt w B sb so (Value.ownBlock (.slice p0 n0 c0)) st x) := by
  have hsb : sb < w.heap.size := World.block_lt_of_cell? _ _ h.cell
  have hl1 : vs1.length = x.1.2.count := FoIn.count _ _ hc1.2.2.2.2.2.2
  have hl2 : vs2.length = x.2.2.count := FoIn.count _ _ hc2.2.2.2.2.2.2
  obtain ⟨q1, eq1⟩ : ∃ q, q = vs1.length := ⟨_, rfl⟩
  obtain ⟨q2, eq2⟩ : ∃ q, q = vs2.length := ⟨_, rfl⟩
  obtain ⟨s1, es1⟩ : ∃ s, s = strOfNums x.1.1.2.2 := ⟨_, rfl⟩
  obtain ⟨s2, es2⟩ : ∃ s, s = strOfNums x.2.1.2.2 := ⟨_, rfl⟩
  have lift : ∀ {a : Addr} {v : Value}, W0.cell? a = some v → w.cell? a = some v := fun hv => (hW.cell (World.block_lt_of_cell? _ _ hv)).trans hv
  have c10 : w.cell? ⟨b1, 0, none⟩ = some (.string s1) := by rw [es1]; exact lift hc1.2.2.1
  have c11 : w.cell? ⟨b1, 1, none⟩ = some (.slice (some ⟨g1, 0, none⟩) q1 q1) := by rw [eq1]; exact lift hc1.2.2.2.1
  have c20 : w.cell? ⟨b2, 0, none⟩ = some (.string s2) := by rw [es2]; exact lift hc2.2.2.1
  have c21 : w.cell? ⟨b2, 1, none⟩ = some (.slice (some ⟨g2, 0, none⟩) q2 q2) := by rw [eq2]; exact lift hc2.2.2.2.1
  have a1 := isComp
  have HFF : Hid (∀ (b : Nat) (s : ByteArray) (q : Nat), ((b = b1 ∧ s = s1 ∧ q = q1) ∨ (b = b2 ∧ s = s2 ∧ q = q2)) → ∀ W, OpenK w sb so b2 W → Calls Tryz.prog 90 #[.pointer (some ⟨b, 0, none⟩)] W fun e w' => e = .returned (.agg #[.string s, .int .i64 q]) ∧ OpenK w sb so b2 w') := fun b s q h W hk => by
    rcases h with ⟨rfl, rfl, rfl⟩ | ⟨rfl, rfl, rfl⟩
    · exact (functor_any b g1 q s W ((hk.1.cell (World.block_lt_of_cell? _ _ c10)).trans c10) ((hk.1.cell (World.block_lt_of_cell? _ _ c11)).trans c11)).mono fun e w' h => ⟨h.1, hk.next h.2⟩
    · exact (functor_any b g2 q s W ((hk.1.cell (World.block_lt_of_cell? _ _ c20)).trans c20) ((hk.1.cell (World.block_lt_of_cell? _ _ c21)).trans c21)).mono fun e w' h => ⟨h.1, hk.next h.2⟩
  have hg : ∀ (o1 o2 : Operand) (W : World), (eqGuard BinOp.neq 52 o1 o2 (.agg #[.string s1, .int .i64 q1]) (.agg #[.string s2, .int .i64 q2])).run Tryz.prog W = .ok () W := fun o1 o2 W => by kernel_rfl
  have hq : ∀ W, (binOp .neq 52 (.agg #[.string s1, .int .i64 q1]) (.agg #[.string s2, .int .i64 q2])).run Tryz.prog W = .ok (.bool (!decide (x.1.1 = x.2.1))) W := fun W => by
    rw [funEq, es1, es2, str_inj ho1.2.1 ho2.2.1]
    congr 3
    have e1 := ho1.2.2.1 h31
    have e2 := ho2.2.2.1 h32
    have hq1 : (q1 : Int) = x.1.1.2.1 := by rw [eq1, hl1]; exact e1.symm
    have hq2 : (q2 : Int) = x.2.1.2.1 := by rw [eq2, hl2]; exact e2.symm
    rw [hq1, hq2, Bool.eq_iff_iff]
    obtain ⟨⟨⟨k1, m1, t1⟩, f1⟩, ⟨⟨k2, m2, t2⟩, f2⟩⟩ := x
    simp only at h31 h32
    subst h31 h32
    simp [and_comm]
  have hkk := OpenK.start w sb so b2 (.cells #[.iface 122 (.pointer (some ⟨b1, 0, none⟩)), .iface 122 (.pointer (some ⟨b2, 0, none⟩))] 114)
  by_cases hx : x.1.1 = x.2.1
  · have HOUT : Hid (∀ W, (∃ p n c, Stk W0 Bt W B sb so p n c (st ++ opened x) ∧ (Value.ownBlock (.slice p n c) = Value.ownBlock (.slice p0 n0 c0) ∨ ∃ k, Value.ownBlock (.slice p n c) = some k ∧ w.heap.size ≤ k)) → Kept2 w W sb so (Value.ownBlock (.slice p0 n0 c0)) → OpenOut W0 Bt w B sb so (Value.ownBlock (.slice p0 n0 c0)) st x (.returned (.bool true)) W) := fun W h1 h2 => ⟨by simp [hx], h1, h2⟩
    have hqq : q1 = q2 := by rw [eq1, eq2, hl1, hl2]; exact ok_count ho1 ho2 hx
    have hq20 : q1 ≤ 2000 := by
      have := ho1.1
      have e1 := ho1.2.2.1 h31
      rw [h31] at this
      simp [cellB] at this
      rw [eq1, hl1]
      have : (x.1.2.count : Int) ≤ 20 := by rw [← e1]; exact this.2.2
      omega
    have ht : decide (x.1.1 = x.2.1) = true := by simpa using hx
    rw [ht] at hq
    simp only [Bool.not_true] at hq
    subst hqq
    have HST : Hid (Stk W0 Bt w B sb so p0 n0 c0 st) := h
    have HC1 : Hid (CompAt W0 Bt x.1.1.2.2 x.1.2 b1 g1 vs1 ∧ q1 = vs1.length ∧ (trs x.1.2).length = q1) := ⟨hc1, eq1, by rw [trs_len, eq1, hl1]⟩
    have HC2 : Hid (CompAt W0 Bt x.2.1.2.2 x.2.2 b2 g2 vs2 ∧ q1 = vs2.length ∧ (trs x.2.2).length = q1) := ⟨hc2, eq2, by rw [trs_len, eq2, hl2]⟩
    have HWB : Hid (Below W0.heap.size W0 w) := hW
    have HX : Hid (opened x = argPairs x) := by show _ = _; rw [opened, if_pos hx]
    clear h hc1 hc2 eq1 eq2 es1 es2 hl1 hl2 ht lift ho1 ho2 h31 h32 hx hW
    refine callsIn_of_wp_marks Tryz.func80 rfl trivial ?_ rfl
    simp only [Tryz.ntmps80, List.size_toArray, List.length_cons, List.length_nil, Nat.reduceAdd, Nat.reduceSub, Array.replicate_succ, Array.replicate_zero, List.push_toArray, List.append_toArray, List.nil_append, List.cons_append]
    gi_wp2_with fail
    refine wpIn_wide.2 ?_
    have kk := hkk
    have kc := kk.cell2
    go_region_held3 (fun W => W.cell? ⟨w.heap.size + 1 + 1, 0, none⟩ = some (.pointer (some ⟨b2, 0, none⟩))) (first | exact kc | go_keep)
      ((go_at_call 90; refine (HFF.out _ _ _ (by first | exact .inl ⟨rfl, rfl, rfl⟩ | exact .inr ⟨rfl, rfl, rfl⟩) _ (by first | exact kk)).mono ?_; clear kk kc; rintro e w5 ⟨rfl, kk⟩; have kc := kk.cell2))
    have d11 : w5.cell? ⟨b1, 1, none⟩ = some (.slice (some ⟨g1, 0, none⟩) q1 q1) := (kk.1.cell (World.block_lt_of_cell? _ _ c11)).trans c11
    have d21 : w5.cell? ⟨b2, 1, none⟩ = some (.slice (some ⟨g2, 0, none⟩) q1 q1) := (kk.1.cell (World.block_lt_of_cell? _ _ c21)).trans c21
    have HKK : Hid (OpenK w sb so b2 w5) := kk
    have hsz5 : w.heap.size + 2 < w5.heap.size := kk.2.1
    clear kk kc hkk
    gi_wp2_with fail
    refine ⟨trivial, (back_in Fence.wide 2 trivial rfl _ _ _ _).mono ?_⟩
    rintro e w' ⟨rfl, rfl⟩
    gi_wp2_with fail
    have hB0' : Below w.heap.size w (w5.alloc (.cells #[.slice (some ⟨g1, 0, none⟩) q1 q1] 109)) := Below.on HKK.out.1 ((Below.refl _ _).alloc (Nat.le_refl _) _)
    have HB6 : Hid _ := hB0'
    have hBw : B ≤ w.heap.size := Nat.le_trans hBs (Nat.le_of_lt hsb)
    have hg1 : g1 < W0.heap.size := HC1.out.1.2.2.2.2.1
    obtain ⟨zs, ezs⟩ : ∃ zs, zs = vs1.map ifOf := ⟨_, rfl⟩
    have HZS : Hid (zs = vs1.map ifOf) := ezs
    have hc6 : ∀ j, j < q1 → (w5.alloc (.cells #[.slice (some ⟨g1, 0, none⟩) q1 q1] 109)).cell? ⟨g1, j, none⟩ = some (.iface (zs[j]?.getD (0, .nilIface)).1 (zs[j]?.getD (0, .nilIface)).2) := fun j hj => by
      have hj' : j < vs1.length := by rw [← HC1.out.2.1]; exact hj
      rw [ezs, zs_at HC1.out.1.2.2.2.2.2.2 hj', ← HC1.out.1.2.2.2.2.2.1 j hj']
      exact ((HWB.out.trans (hB0'.mono HWB.out.size)).cell (p := ⟨g1, j, none⟩) hg1)
    clear ezs
    have hN : (w5.alloc (.cells #[.slice (some ⟨g1, 0, none⟩) q1 q1] 109)).heap[w5.heap.size]? = some (.cells #[.slice (some ⟨g1, 0, none⟩) q1 q1] 109) := heap_alloc_new _ _
    refine wpIn_rangeFunc_ownG rfl (by decide) (gf := 145) (lb := #[.pointer (some ⟨w5.heap.size, 0, none⟩)]) rfl trivial (enters_of Tryz.func145 (by kernel_rfl) rfl)
      (backF_stops Fence.wide 2 trivial rfl (by decide) w5.heap.size B g1 q1 q1 zs hq20 _ (by simp) (by simp; omega) (by omega) (cell_of_row _ _ 0 _ _ _ hN) hc6) BKeep.trans (bKeep_b (by simp; omega)) (Below.refl _ _) (fun _ => rfl)
      (OInv W0 Bt w B sb so b2 g1 q1 w5.heap.size (Value.ownBlock (.slice p0 n0 c0)) st x)
      (fun _ _ _ => False)
      (oInv_own W0 Bt w B sb so b2 g1 q1 w5.heap.size _ st x hsb _ (by simp; omega))
      (fun _ _ _ _ _ hs _ _ => hs)
      ?start
      (fun i => { tmps := #[.pointer (some ⟨sb, so, none⟩), .agg #[.iface 122 (.pointer (some ⟨b1, 0, none⟩)), .iface 122 (.pointer (some ⟨b2, 0, none⟩))], .pointer (some ⟨w.heap.size, 0, none⟩), .pointer (some ⟨w.heap.size + 1, 0, none⟩), .bool false, .pointer (some ⟨b1, 0, none⟩), .bool true, .pointer (some ⟨w.heap.size + 1 + 1, 0, none⟩), .bool true, Value.int .i64 ((i : Nat) : Int), Value.iface ((zs[(i : Nat)]?.getD (0, .nilIface)).1) ((zs[(i : Nat)]?.getD (0, .nilIface)).2), .tuple #[.pointer (some ⟨b1, 0, none⟩), .bool true], .pointer (some ⟨w.heap.size + 1, 0, none⟩), .iface 122 (.pointer (some ⟨b1, 0, none⟩)), .tuple #[.pointer (some ⟨b1, 0, none⟩), .bool true], .pointer (some ⟨b1, 0, none⟩), .bool true, .tuple #[.pointer (some ⟨b2, 0, none⟩), .bool true], .pointer (some ⟨w.heap.size + 1, 1, none⟩), .iface 122 (.pointer (some ⟨b2, 0, none⟩)), .tuple #[.pointer (some ⟨b2, 0, none⟩), .bool true], .pointer (some ⟨b2, 0, none⟩), .bool true, .bool true, .bool false, .bool false, .bool true, .bool false, .bool false, undef, undef, undef, undef, .pointer (some ⟨b1, 0, none⟩), .agg #[.string s1, .int .i64 q1], .pointer (some ⟨b2, 0, none⟩), .agg #[.string s2, .int .i64 q1], .bool false, .pointer (some ⟨b1, 0, none⟩), .pointer (some ⟨b1, 0, none⟩), .pointer (some ⟨b1, 1, none⟩), .slice (some ⟨g1, 0, none⟩) q1 q1, .func (.func 145) #[] #[.pointer (some ⟨w5.heap.size, 0, none⟩)], Value.int .i64 ((i : Nat) : Int), Value.iface ((zs[(i : Nat)]?.getD (0, .nilIface)).1) ((zs[(i : Nat)]?.getD (0, .nilIface)).2), undef, undef, undef, undef, undef, undef, undef, undef, undef, undef, undef, undef, undef, undef, undef, undef], defers := [] }) ?assign ?body ?done ?stop
    case start =>
      have hk6 := HKK.out.next ((Below.refl w5.heap.size w5).alloc (Nat.le_refl _) (.cells #[.slice (some ⟨g1, 0, none⟩) q1 q1] 109))
      exact ⟨⟨p0, n0, c0, by simpa using HST.out.below hB0', .inl rfl⟩, Kept2.of_below _ hB0' hsb, hk6.2.2.1, hk6.2.2.2, hN⟩
    case assign =>
      intro l i W K hK
      gi_wp2
      exact hK
    case body =>
      rintro l pre i W ⟨⟨p, n, c, hst, hown⟩, hkept, k1, k2, k3⟩ hlt
      have HB : Hid (Below B w W) := hkept.below hBs (fun k e => by
        obtain ⟨_, hr, _⟩ := HST.out.row
        exact (hr.lt k e).1) hBw
      have hWW : Below W0.heap.size W0 W := HWB.out.trans (HB.out.mono hB0)
      have hiq' : (i : Nat) < q1 := i.2
      obtain ⟨j, ej⟩ : ∃ j, j = (i : Nat) := ⟨_, rfl⟩
      rw [← ej] at hiq'
      have hv1 : Value.iface ((zs[(i : Nat)]?.getD (0, .nilIface)).1) ((zs[(i : Nat)]?.getD (0, .nilIface)).2) = vs1.getD j .nilIface := by
        rw [HZS.out, ← ej]; exact zs_at HC1.out.1.2.2.2.2.2.2 (by rw [← HC1.out.2.1]; exact hiq')
      have hv2 := zs_at HC2.out.1.2.2.2.2.2.2 (j := j) (by rw [← HC2.out.2.1]; exact hiq')
      have hf1 := FoIn.tree _ _ HC1.out.1.2.2.2.2.2.2 j (by rw [HC1.out.2.2]; exact hiq')
      have hf2 := FoIn.tree _ _ HC2.out.1.2.2.2.2.2.2 j (by rw [HC2.out.2.2]; exact hiq')
      have hcell2 : W0.cell? ⟨g2, j, none⟩ = some (vs2.getD j .nilIface) := HC2.out.1.2.2.2.2.2.1 j (by rw [← HC2.out.2.1]; exact hiq')
      rw [← hv1] at hf1
      rw [← hv2] at hf2 hcell2
      obtain ⟨t1, et1⟩ : ∃ t, t = (zs[(i : Nat)]?.getD (0, .nilIface)).1 := ⟨_, rfl⟩
      obtain ⟨x1, ex1⟩ : ∃ t, t = (zs[(i : Nat)]?.getD (0, .nilIface)).2 := ⟨_, rfl⟩
      obtain ⟨t2, et2⟩ : ∃ t, t = ((vs2.map ifOf)[j]?.getD (0, .nilIface)).1 := ⟨_, rfl⟩
      obtain ⟨x2, ex2⟩ : ∃ t, t = ((vs2.map ifOf)[j]?.getD (0, .nilIface)).2 := ⟨_, rfl⟩
      rw [← et1, ← ex1] at hf1
      rw [← et2, ← ex2] at hf2 hcell2
      dsimp only
      rw [← et1, ← ex1, ← ej]
      have e5 : W.cell? ⟨g2, j, none⟩ = some (.iface t2 x2) := (hWW.cell (World.block_lt_of_cell? _ _ hcell2)).trans hcell2
      have e4 : W.cell? ⟨b2, 1, none⟩ = some (.slice (some ⟨g2, 0, none⟩) q1 q1) := by
        have := (HB.out.cell (p := ⟨b2, 1, none⟩) (show b2 < B by have := World.block_lt_of_cell? _ _ HC2.out.1.2.2.2.1; simp at this; omega))
        exact this.trans c21
      have e1 : W.cell? ⟨w.heap.size, 0, none⟩ = some (.pointer (some ⟨sb, so, none⟩)) := cell_of_row _ _ 0 _ _ _ k1
      have e3 : W.cell? ⟨w.heap.size + 1 + 1, 0, none⟩ = some (.pointer (some ⟨b2, 0, none⟩)) := cell_of_row _ _ 0 _ _ _ k2
      have e2 := hst.cell
      have HPR : Hid (FoIn W0 Bt (prAt x j).1.fo [.iface t1 x1] ∧ FoIn W0 Bt (prAt x j).2.fo [.iface t2 x2]) := by
        refine ⟨?_, ?_⟩
        · simpa [prAt, List.getD, HC1.out.2.2, hiq'] using hf1
        · simpa [prAt, List.getD, HC2.out.2.2, hiq'] using hf2
      have HEJ : Hid (j = (i : Nat)) := ej
      have hi0 : (0 : Int) ≤ (j : Int) := by omega
      have hiq : (j : Int) < (q1 : Int) := by omega
      have hbuild : ∀ w, (Instr.build 114 #[(0, .iface t1 x1), (1, .iface t2 x2)]).run Tryz.prog w = .ok (.agg #[.iface t1 x1, .iface t2 x2]) w := fun w => run_build w 114 _ _ (by kernel_rfl)
      have hS0 : (fun W' : World => W'.cell? ⟨w.heap.size, 0, none⟩ = some (.pointer (some ⟨sb, so, none⟩)) ∧ W'.cell? ⟨sb, so, none⟩ = some (.slice p n c) ∧ W'.cell? ⟨w.heap.size + 1 + 1, 0, none⟩ = some (.pointer (some ⟨b2, 0, none⟩)) ∧ W'.cell? ⟨b2, 1, none⟩ = some (.slice (some ⟨g2, 0, none⟩) q1 q1) ∧ W'.cell? ⟨g2, j, none⟩ = some (.iface t2 x2)) W.drew := ⟨e1, e2, e3, e4, e5⟩
      clear hv1 hv2 hf1 hf2 hcell2 et1 ex1 et2 ex2 ej hc6 e1 e2 e3 e4 e5
      gi_wp2_with fail
      refine wpIn_region_until (c := 16) (S := fun W' : World => W'.cell? ⟨w.heap.size, 0, none⟩ = some (.pointer (some ⟨sb, so, none⟩)) ∧ W'.cell? ⟨sb, so, none⟩ = some (.slice p n c) ∧ W'.cell? ⟨w.heap.size + 1 + 1, 0, none⟩ = some (.pointer (some ⟨b2, 0, none⟩)) ∧ W'.cell? ⟨b2, 1, none⟩ = some (.slice (some ⟨g2, 0, none⟩) q1 q1) ∧ W'.cell? ⟨g2, j, none⟩ = some (.iface t2 x2)) (by kernel_rfl) (by kernel_rfl) ?_
      refine wpAnyU_take (i := 0) (v := .pointer (some ⟨sb, so, none⟩)) (D := [15, 16]) (some 45) (by kernel_rfl) (by kernel_rfl) (by kernel_rfl) (by kernel_rfl) (by kernel_rfl) (by rfl) (by kernel_rfl) (fun _ _ _ h => h) (fun o ho => ?y0) (hS0) ?_
      case y0 =>
        cases ho
        refine .inl ⟨by kernel_rfl, fun w' hw => ?_⟩
        simp [execOp, go_sem, Act.eval, hw.1]
      refine wpAnyU_take (i := 1) (v := .pointer (some ⟨sb, so, none⟩)) (D := [2, 3, 14, 16]) (some 46) (by kernel_rfl) (by kernel_rfl) (by kernel_rfl) (by kernel_rfl) (by kernel_rfl) (by rfl) (by kernel_rfl) (fun _ _ _ h => h) (fun o ho => ?y1) (hS0) ?_
      case y1 =>
        cases ho
        refine .inl ⟨by kernel_rfl, fun w' hw => ?_⟩
        simp [execOp, go_sem, Act.eval, Act.put, hw.1]
      refine wpAnyU_take (i := 2) (v := .pointer (some ⟨sb, so, none⟩)) (D := [3, 14, 16]) (some 47) (by kernel_rfl) (by kernel_rfl) (by kernel_rfl) (by kernel_rfl) (by kernel_rfl) (by rfl) (by kernel_rfl) (fun _ _ _ h => h) (fun o ho => ?y2) (hS0) ?_
      case y2 =>
        cases ho
        refine .inl ⟨by kernel_rfl, fun w' hw => ?_⟩
        simp [execOp, go_sem, Act.eval, Act.put]
      refine wpAnyU_take (i := 3) (v := .slice p n c) (D := [14, 16]) (some 48) (by kernel_rfl) (by kernel_rfl) (by kernel_rfl) (by kernel_rfl) (by kernel_rfl) (by rfl) (by kernel_rfl) (fun _ _ _ h => h) (fun o ho => ?y3) (hS0) ?_
      case y3 =>
        cases ho
        refine .inl ⟨by kernel_rfl, fun w' hw => ?_⟩
        simp [execOp, go_sem, Act.eval, Act.put, hw.2.1]
      refine wpAnyU_take (i := 4) (v := .iface t1 x1) (D := [12, 13, 14, 16]) (some 49) (by kernel_rfl) (by kernel_rfl) (by kernel_rfl) (by kernel_rfl) (by kernel_rfl) (by rfl) (by kernel_rfl) (fun _ _ _ h => h) (fun o ho => ?y4) (hS0) ?_
      case y4 =>
        cases ho
        refine .inl ⟨by kernel_rfl, fun w' hw => ?_⟩
        simp [execOp, go_sem, Act.eval, Act.put]
      refine wpAnyU_take (i := 5) (v := .pointer (some ⟨b2, 0, none⟩)) (D := [6, 7, 8, 10, 11, 12, 13, 14, 16]) (some 50) (by kernel_rfl) (by kernel_rfl) (by kernel_rfl) (by kernel_rfl) (by kernel_rfl) (by rfl) (by kernel_rfl) (fun _ _ _ h => h) (fun o ho => ?y5) (hS0) ?_
      case y5 =>
        cases ho
        refine .inl ⟨by kernel_rfl, fun w' hw => ?_⟩
        simp [execOp, go_sem, Act.eval, Act.put, hw.2.2.1]
      refine wpAnyU_take (i := 6) (v := .pointer (some ⟨b2, 0, none⟩)) (D := [7, 8, 10, 11, 12, 13, 14, 16]) (some 51) (by kernel_rfl) (by kernel_rfl) (by kernel_rfl) (by kernel_rfl) (by kernel_rfl) (by rfl) (by kernel_rfl) (fun _ _ _ h => h) (fun o ho => ?y6) (hS0) ?_
      case y6 =>
        cases ho
        refine .inl ⟨by kernel_rfl, fun w' hw => ?_⟩
        simp [execOp, go_sem, Act.eval, Act.put]
      refine wpAnyU_take (i := 7) (v := .pointer (some ⟨b2, 1, none⟩)) (D := [8, 10, 11, 12, 13, 14, 16]) (some 52) (by kernel_rfl) (by kernel_rfl) (by kernel_rfl) (by kernel_rfl) (by kernel_rfl) (by rfl) (by kernel_rfl) (fun _ _ _ h => h) (fun o ho => ?y7) (hS0) ?_
      case y7 =>
        cases ho
        refine .inl ⟨by kernel_rfl, fun w' hw => ?_⟩
        simp [execOp, go_sem, Act.eval, Act.put]
      refine wpAnyU_take (i := 8) (v := .slice (some ⟨g2, 0, none⟩) q1 q1) (D := [10, 11, 12, 13, 14, 16]) (some 53) (by kernel_rfl) (by kernel_rfl) (by kernel_rfl) (by kernel_rfl) (by kernel_rfl) (by rfl) (by kernel_rfl) (fun _ _ _ h => h) (fun o ho => ?y8) (hS0) ?_
      case y8 =>
        cases ho
        refine .inl ⟨by kernel_rfl, fun w' hw => ?_⟩
        simp [execOp, go_sem, Act.eval, Act.put, hw.2.2.2.1]
      refine wpAnyU_take (i := 9) (v := .int .i64 (j : Int)) (D := [10, 11, 12, 13, 14, 16]) (some 54) (by kernel_rfl) (by kernel_rfl) (by kernel_rfl) (by kernel_rfl) (by kernel_rfl) (by rfl) (by kernel_rfl) (fun _ _ _ h => h) (fun o ho => ?y9) (hS0) ?_
      case y9 =>
        cases ho
        refine .inl ⟨by kernel_rfl, fun w' hw => ?_⟩
        simp [execOp, go_sem, Act.eval, Act.put]
      refine wpAnyU_take (i := 10) (v := .pointer (some ⟨g2, j, none⟩)) (D := [11, 12, 13, 14, 16]) (some 55) (by kernel_rfl) (by kernel_rfl) (by kernel_rfl) (by kernel_rfl) (by kernel_rfl) (by rfl) (by kernel_rfl) (fun _ _ _ h => h) (fun o ho => ?y10) (hS0) ?_
      case y10 =>
        cases ho
        refine .inl ⟨by kernel_rfl, fun w' hw => ?_⟩
        simp [execOp, go_sem, Act.eval, Act.put, hi0, hiq]
      refine wpAnyU_take (i := 11) (v := .iface t2 x2) (D := [12, 13, 14, 16]) (some 56) (by kernel_rfl) (by kernel_rfl) (by kernel_rfl) (by kernel_rfl) (by kernel_rfl) (by rfl) (by kernel_rfl) (fun _ _ _ h => h) (fun o ho => ?y11) (hS0) ?_
      case y11 =>
        cases ho
        refine .inl ⟨by kernel_rfl, fun w' hw => ?_⟩
        simp [execOp, go_sem, Act.eval, Act.put, hw.2.2.2.2]
      refine wpAnyU_take (i := 12) (v := .agg #[.iface t1 x1, .iface t2 x2]) (D := [13, 14, 16]) (some 57) (by kernel_rfl) (by kernel_rfl) (by kernel_rfl) (by kernel_rfl) (by kernel_rfl) (by rfl) (by kernel_rfl) (fun _ _ _ h => h) (fun o ho => ?y12) (hS0) ?_
      case y12 =>
        cases ho
        refine .inl ⟨by kernel_rfl, fun w' hw => ?_⟩
        simp [execOp, go_sem, Act.eval, Act.put]
      obtain ⟨vs, hrow, hpin⟩ := hst.row
      obtain ⟨i0, hi, hz0, hz1, hz2⟩ := info_parts infoPair
      have hlenS := hst.len
      have hnb : n ≤ 2000000 := by
        have h1 := HST.out.len
        rw [hlenS, List.length_append, List.length_map]
        omega
      have hneS : some sb ≠ Value.ownBlock (.slice p n c) := fun e => by
        rcases hrow.2 with ⟨h', _⟩ | ⟨g', cap', cur, hv, _⟩
        · cases h'; cases e
        · cases hv; cases e; exact hst.away _ rfl rfl
      have hWsz : w.heap.size ≤ W.heap.size := hkept.size
      refine wpAnyU_all (rs := [13]) (by kernel_rfl) (by decide) ?_
      intro i' hi'
      obtain rfl : i' = 13 := by simpa using hi'
      clear hi'
      refine wpOp_value (some 58) (by kernel_rfl) (by kernel_rfl) (v := .slice (some ⟨W.heap.size, 0, none⟩) 1 1) (w' := (W.alloc (.cells #[.iface t1 x1, .iface t2 x2] 114)).drew) (fun o ho => ?r13) ⟨fun _ => ?s13, ?_⟩
      case r13 =>
        cases ho
        simp [execOp, go_sem, Act.eval, Act.put]
      case s13 => exact ⟨Lib.cell?_alloc_marked _ hS0.1, Lib.cell?_alloc_marked _ hS0.2.1, Lib.cell?_alloc_marked _ hS0.2.2.1, Lib.cell?_alloc_marked _ hS0.2.2.2.1, Lib.cell?_alloc_marked _ hS0.2.2.2.2⟩
      simp only [Act.put, List.setIfInBounds_toArray, List.set_cons_zero, List.set_cons_succ]
      refine wpAnyU_all (rs := [14]) (by kernel_rfl) (by decide) ?_
      intro i' hi'
      obtain rfl : i' = 14 := by simpa using hi'
      clear hi'
      refine wpOp_oper (by kernel_rfl) (fun o ho => ?_)
      cases ho
      refine wp_append_lies _ (.tmp 48) (.tmp 58) 116 rfl B 114 i0 (.agg #[.nilIface, .nilIface]) 2 32 Tryz.underlying116 hi hz0 hz1 hz2 rfl (by decide) (.slice p n c) n (flatP vs) (by rfl) (hrow.alloc _) ⟨W.heap.size, 0, none⟩ 1 1 [.iface t1 x1, .iface t2 x2] (by rfl) rfl (cell_two_new _ _ _ _) (by simp [Value.oneCell']) (by decide) (by unfold maxLen; omega) (by omega) (by show B ≤ (W.alloc _).heap.size; simp; omega) (W.heap.size + 1) (by show (W.alloc _).heap.size = _; simp) ?_
      intro g' cap' w1 hown1 hgrow1 hat1 hlt1
      obtain ⟨hgs, hc1, hf1, hstk⟩ := hst.grew (Nat.lt_of_lt_of_le hsb hWsz) hpin HPR.out.1 HPR.out.2 hown1 hgrow1 hat1
      have hblk : ∀ k, k < W.heap.size → some k ≠ Value.ownBlock (.slice p n c) → w1.heap[k]? = W.heap[k]? := fun k hk e => (hgrow1.block k (by show k < (W.alloc _).heap.size; simp; omega) e).trans (Below.heap_alloc _ _ _ hk)
      have hlow : ∀ k, k < B → some k ≠ Value.ownBlock (.slice p n c) := fun k hk e => by have := (hrow.lt k e.symm).1; omega
      have r1 := (hblk _ (Array.getElem?_eq_some_iff.1 k1).1 (row_ne hrow k1 (by decide))).trans k1
      have r2 := (hblk _ (Array.getElem?_eq_some_iff.1 k2).1 (row_ne hrow k2 (by decide))).trans k2
      have r3 := (hblk _ (Array.getElem?_eq_some_iff.1 k3).1 (row_ne hrow k3 (by decide))).trans k3
      have hS1 : w1.cell? ⟨w.heap.size, 0, none⟩ = some (.pointer (some ⟨sb, so, none⟩)) ∧ w1.cell? ⟨sb, so, none⟩ = some (.slice p n c) ∧ w1.cell? ⟨w.heap.size + 1 + 1, 0, none⟩ = some (.pointer (some ⟨b2, 0, none⟩)) ∧ w1.cell? ⟨b2, 1, none⟩ = some (.slice (some ⟨g2, 0, none⟩) q1 q1) ∧ w1.cell? ⟨g2, j, none⟩ = some (.iface t2 x2) := by
        have hb2 : b2 < W0.heap.size := World.block_lt_of_cell? _ _ HC2.out.1.2.2.2.1
        have hg2 : g2 < W0.heap.size := HC2.out.1.2.2.2.2.1
        exact ⟨cell_of_row _ _ 0 _ _ _ r1, hc1, cell_of_row _ _ 0 _ _ _ r2, (World.cell?_of_block (a := ⟨b2, 1, none⟩) (hblk b2 (by omega) (hlow b2 (by omega)))).trans hS0.2.2.2.1, (World.cell?_of_block (a := ⟨g2, j, none⟩) (hblk g2 (by omega) (hlow g2 (by omega)))).trans hS0.2.2.2.2⟩
      refine ⟨fun _ => hS1, ?_⟩
      refine wpAnyU_all (rs := [15]) (by kernel_rfl) (by decide) ?_
      intro i' hi'
      obtain rfl : i' = 15 := by simpa using hi'
      clear hi'
      refine wpOp_value (some 60) (by kernel_rfl) (by kernel_rfl) (v := .pointer (some ⟨sb, so, none⟩)) (w' := w1) (fun o ho => ?r15) ⟨fun _ => hS1, ?_⟩
      case r15 =>
        cases ho
        simp [execOp, go_sem, Act.eval, Act.put]
      refine wpAnyU_all (rs := [16]) (by kernel_rfl) (by decide) ?_
      intro i' hi'
      obtain rfl : i' = 16 := by simpa using hi'
      clear hi'
      refine wpOp_skip none (by kernel_rfl) (by kernel_rfl) (w' := w1.setCell ⟨sb, so, none⟩ (.slice (some ⟨g', 0, none⟩) (n + 1) cap')) (fun o ho => ?r16) ⟨(fun h => by cases h), ?_⟩
      case r16 =>
        cases ho
        simp [execOp, go_sem, Act.eval, Act.put, hc1, hf1]
      refine wpAnyU_done (by kernel_rfl) ⟨rfl, ?_⟩ _
      have hKO : KeepsOthers W (w1.setCell ⟨sb, so, none⟩ (.slice (some ⟨g', 0, none⟩) (n + 1) cap')) := ((KeepsOthers.alloc W _).trans ((KeepsOthers.drew _).trans ((KeepsOthers.of_grownBy hgrow1 (fun k o e ho => by
        rcases hrow.2 with ⟨h', _⟩ | ⟨g2', cap2, cur, hv, _, hh, _⟩
        · cases h'; cases e
        · cases hv
          cases e
          have := (Below.heap_alloc W (.cells #[.iface t1 x1, .iface t2 x2] 114) _ (Array.getElem?_eq_some_iff.1 hh).1).trans hh
          have h2 : some o = some (Obj.cells cur 114) := ho.symm.trans this
          cases h2; rfl)).trans (KeepsOthers.setCell _ _ _))))
      have hBW : Below B W (w1.setCell ⟨sb, so, none⟩ (.slice (some ⟨g', 0, none⟩) (n + 1) cap')) := ((((Below.refl B W).alloc (by omega) _).drew).grown hgrow1 (by show B ≤ (W.alloc _).heap.size; simp; omega) (fun k e => (hrow.lt k e).1)).setCell (p := ⟨sb, so, none⟩) hBs _
      have hne5 : w5.heap.size ≠ sb := by omega
      have hpair : st ++ (pre ++ [i]).map (fun i : Fin q1 => prAt x (i : Nat)) = st ++ pre.map (fun i : Fin q1 => prAt x (i : Nat)) ++ [prAt x j] := by rw [HEJ.out]; simp
      refine ⟨hKO.from _, ⟨hBW, fun v hv => ?_⟩, ⟨_, _, _, by rw [hpair]; exact hstk, ?_⟩, hkept.round hsb hown hneS hgrow1 _, ?_, ?_, ?_⟩
      · rw [World.cell?_setCell_other _ _ _ _ (fun e => hne5 (congrArg Addr.block e).symm)]
        have := cell_of_row W _ 0 _ _ _ k3
        rw [this] at hv
        rw [← hv]
        exact cell_of_row _ _ 0 _ _ _ r3
      · rcases hat1 with h' | h'
        · rcases hown with h2 | ⟨k, h2, hk⟩
          · exact .inl (by rw [← h2, h']; rfl)
          · exact .inr ⟨k, by rw [← h2, h']; rfl, hk⟩
        · exact .inr ⟨g', rfl, by omega⟩
      · exact (Below.heap_setCell _ _ _ _ (by simp; omega)).trans r1
      · exact (Below.heap_setCell _ _ _ _ (by simp; omega)).trans r2
      · exact (Below.heap_setCell _ _ _ _ (by simp; omega)).trans r3
    case done =>
      rintro D ys W hD rfl ⟨⟨p, n, c, hst, hown⟩, hkept, k1, k2, k3⟩ hK
      rw [prAt_all x q1 HC1.out.2.2 HC2.out.2.2, ← HX.out] at hst
      have HR : Hid (OpenOut W0 Bt w B sb so (Value.ownBlock (.slice p0 n0 c0)) st x (.returned (.bool true)) (W.putObj D (.deferred none))) := by
        have hr : ∀ r, some D = some r → ∃ o : Obj, W.heap[r]? = some o ∧ o.isCells = false := fun r e => by cases e; exact ⟨_, hK, rfl⟩
        have hgp := grownBy_putObj' W D (.deferred none)
        have hD' : w.heap.size ≤ D := by simp at hD; omega
        have hb : ∀ k, k < w.heap.size → (W.putObj D (.deferred none)).heap[k]? = W.heap[k]? := fun k hk => hgp.block k (Nat.lt_of_lt_of_le hk hkept.size) (fun e => by cases e; omega)
        refine HOUT.out _ ⟨p, n, c, hst.kept hgp hr, hown⟩ ⟨hgp.os.trans hkept.os, hgp.tape.trans hkept.tape, hgp.output.trans hkept.output, Nat.le_trans hkept.size hgp.size, fun k h1 h2 h3 => (hb k h1).trans (hkept.block k h1 h2 h3),
          fun o ho => (World.cell?_of_block (a := ⟨sb, o, none⟩) (hb sb hsb)).trans (hkept.cells o ho), fun o => (World.frozen?_of_block (a := ⟨sb, o, none⟩) (hb sb hsb)).trans (hkept.frz o)⟩
      clear hst hown hkept k1 k2 k3
      gi_wp2
      refine ⟨by simp, .inl ⟨_, _, rfl, run_takeDeferred hK, ?_⟩⟩
      exact ⟨.bool true, by simp [results, Tryz.f80, go_sem], HR.out⟩
    case stop =>
      rintro D c pre W _ _ h _
      exact h.elim
  · have ht : decide (x.1.1 = x.2.1) = false := by simpa using hx
    rw [ht] at hq
    have HOUT : Hid (∀ W, Below w.heap.size w W → OpenOut W0 Bt w B sb so (Value.ownBlock (.slice p0 n0 c0)) st x (.returned (.bool false)) W) := fun W hb =>
      ⟨by rw [ht], ⟨p0, n0, c0, by rw [opened, if_neg hx, List.append_nil]; exact h.below hb, .inl rfl⟩, Kept2.of_below _ hb hsb⟩
    refine callsIn_wide.2 ?_
    simp only [Bool.not_false] at hq
    clear h hc1 hc2 eq1 eq2 es1 es2 hl1 hl2 ht lift ho1 ho2 h31 h32 hx hW c10 c11 c20 c21
    go_enter Tryz.func80, Tryz.ntmps80
    go_wp2_with fail
    have kk := hkk
    have kc := kk.cell2
    go_region_held3 (fun W => W.cell? ⟨w.heap.size + 1 + 1, 0, none⟩ = some (.pointer (some ⟨b2, 0, none⟩))) (first | exact kc | go_keep)
      ((go_at_call 90; refine (HFF.out _ _ _ (by first | exact .inl ⟨rfl, rfl, rfl⟩ | exact .inr ⟨rfl, rfl, rfl⟩) _ (by first | exact kk)).mono ?_; clear kk kc; rintro e w5 ⟨rfl, kk⟩; have kc := kk.cell2))
    go_wp2_with fail
    go_ret
    exact HOUT.out _ kk.1
end Go.Proofs.YtfgaenggbbgboaaGreatDoor

namespace Go.Proofs.YtfgaenggbbgboaaGreatDoor
open Go Go.RowKit
set_option linter.unusedVariables false
theorem open_any (W0 : World) (Bt : Nat) (w : World) (B sb so : Nat) (p : Option Addr) (n c : Nat) (st : List TT) (x : TT) (v1 v2 : Value) (h : Stk W0 Bt w B sb so p n c st) (hW : Below W0.heap.size W0 w) (hB0 : W0.heap.size ≤ B) (hBs : B ≤ sb) (hn : n ≤ 1000000)
    (hx1 : FoIn W0 Bt x.1.fo [v1]) (hx2 : FoIn W0 Bt x.2.fo [v2]) (ho1 : x.1.ok) (ho2 : x.2.ok) :
    Calls Tryz.prog 80 #[.pointer (some ⟨sb, so, none⟩), .agg #[v1, v2]] w (OpenOut W0 Bt w B sb so (Value.ownBlock (.slice p n c)) st x) := by
  by_cases h3 : x.1.1.1 = 3 ∧ x.2.1.1 = 3
  · obtain ⟨u1, r1, e1, hn1, _⟩ := hx1
    obtain ⟨rfl, rfl⟩ := List.cons.inj e1
    obtain ⟨u2, r2, e2, hn2, _⟩ := hx2
    obtain ⟨rfl, rfl⟩ := List.cons.inj e2
    have comp : ∀ {c : Cel} {k : Fo} {v : Value}, NodeIn W0 Bt c (fun kv => FoIn W0 Bt k kv) v → c.1 = 3 → ∃ b g vs, v = .iface 122 (.pointer (some ⟨b, 0, none⟩)) ∧ CompAt W0 Bt c.2.2 k b g vs := fun {c k v} hn h => by
      rcases hn with ⟨e, _⟩ | ⟨e, _⟩ | ⟨e, _⟩ | ⟨_, b, g, vs, hv, hc⟩
      · omega
      · omega
      · omega
      · exact ⟨b, g, vs, hv, hc⟩
    obtain ⟨b1, g1, vs1, rfl, hc1⟩ := comp hn1 h3.1
    obtain ⟨b2, g2, vs2, rfl, hc2⟩ := comp hn2 h3.2
    exact callsIn_wide.1 (openComp_wide W0 Bt w B sb so p n c st x b1 g1 b2 g2 vs1 vs2 h hW hB0 hBs hn hc1 hc2 ho1 ho2 h3.1 h3.2)
  · exact openLeaf_any W0 Bt w B sb so p n c st x v1 v2 h hx1 hx2 ho1 ho2 h3
theorem Stk.made {W0 : World} {Bt : Nat} (w : World) (x : TT) (v1 v2 : Value) (t : TypeId) (h1 : FoIn W0 Bt x.1.fo [v1]) (h2 : FoIn W0 Bt x.2.fo [v2]) :
    Stk W0 Bt ((w.alloc (.cells #[v1, v2] 114)).alloc (.cells #[.slice (some ⟨w.heap.size, 0, none⟩) 1 1] t)) w.heap.size (w.heap.size + 1) 0 (some ⟨w.heap.size, 0, none⟩) 1 1 [x] := by
  have hb := heap_alloc_new (w.alloc (.cells #[v1, v2] 114)) (.cells #[.slice (some ⟨w.heap.size, 0, none⟩) 1 1] t)
  rw [World.size_alloc] at hb
  have hr : ((w.alloc (.cells #[v1, v2] 114)).alloc (.cells #[.slice (some ⟨w.heap.size, 0, none⟩) 1 1] t)).heap[w.heap.size]? = some (.cells #[v1, v2] 114) := (Below.heap_alloc _ _ _ (by simp)).trans (heap_alloc_new _ _)
  refine ⟨cell_of_row _ _ 0 _ _ _ hb, frozen_of_row _ _ 0 _ _ hb, rfl, ⟨[(v1, v2)], ⟨rfl, .inr ⟨w.heap.size, 1, #[v1, v2], rfl, Nat.le_refl _, hr, Nat.le_refl _, by decide, rfl, rfl⟩⟩, ⟨_, [], rfl, h1, h2, rfl⟩⟩, fun g e => by cases e; omega⟩
set_option maxRecDepth 100000 in
set_option maxHeartbeats 1000000 in
theorem isSame_any (W0 : World) (Bt : Nat) (w : World) (x : TT) (v1 v2 : Value) (hW : Below W0.heap.size W0 w) (hx1 : FoIn W0 Bt x.1.fo [v1]) (hx2 : FoIn W0 Bt x.2.fo [v2]) (ho1 : x.1.ok) (ho2 : x.2.ok) (hl : x.1.2.cells.length ≤ 10000) :
    Calls Tryz.prog 51 #[v1, v2] w fun e w' => e = .returned (.bool (eqT x)) ∧ Below w.heap.size w w' := by
  obtain ⟨t1, y1, rfl⟩ := FoIn.iface (show FoIn W0 Bt (.node x.1.1 x.1.2 .nil) [v1] from hx1)
  obtain ⟨t2, y2, rfl⟩ := FoIn.iface (show FoIn W0 Bt (.node x.2.1 x.2.2 .nil) [v2] from hx2)
  have HS : Hid _ := Stk.made w x (.iface t1 y1) (.iface t2 y2) 116 hx1 hx2
  have HB : Hid (∀ a b, Below w.heap.size w ((w.alloc a).alloc b)) := fun a b => ((Below.refl _ _).alloc (Nat.le_refl _) _).alloc (by simp) _
  have HW : Hid (Below W0.heap.size W0 w) := hW
  have HOK : Hid (x.1.ok ∧ x.2.ok) := ⟨ho1, ho2⟩
  have HE : Hid (sames [x] = eqT x) := by simp [sames, Hid]
  obtain ⟨R, eR⟩ : ∃ R, R = eqT x := ⟨_, rfl⟩
  rw [← eR] at HE ⊢
  clear hW hx1 hx2 ho1 ho2 eR
  go_enter Tryz.func51, Tryz.ntmps51
  go_wp2
  go_loopg [] (load [x]) (fun k wr => ∃ (p : Option Addr) (n c : Nat) (st : List TT), wr.cell? ⟨w.heap.size + 1, 0, none⟩ = some (.slice p n c) ∧ n ≤ 100000 ∧ Hid (Stk W0 Bt wr w.heap.size (w.heap.size + 1) 0 p n c st ∧ (∀ y ∈ st, y.1.ok ∧ y.2.ok) ∧ load st = k ∧ k ≤ 20000 ∧ sames st = R ∧ Below w.heap.size w wr))
  case atStart => exact ⟨_, _, _, [x], HS.out.cell, by decide, HS.out, fun y hy => by rw [List.mem_singleton.1 hy]; exact HOK.out, rfl, by simp [load]; omega, HE.out, HB.out _ _⟩
  case round =>
    obtain ⟨p, n, c, st, hcell, hn, HR⟩ := hrel
    rcases List.eq_nil_or_concat st with rfl | ⟨st', y, rfl⟩
    · have hn0 : n = 0 := HR.out.1.len
      subst hn0
      have HF : Hid (R = true) := HR.out.2.2.2.2.1.symm
      go_wp2
      go_ret
      exact ⟨ret_bool HF.out.symm, HR.out.2.2.2.2.2⟩
    · rw [List.concat_eq_append] at HR
      have hst := HR.out.1
      have hlen := hst.len
      have hn1 : n = st'.length + 1 := by rw [hlen]; simp
      have hpos : (0 : Int) < (n : Int) := by omega
      have HT := take_any W0 Bt wr w.heap.size (w.heap.size + 1) 0 p n c st' y (by omega) hst
      have hoy : y.1.ok ∧ y.2.ok := HR.out.2.1 y (by simp)
      have HOY : Hid (y.1.ok ∧ y.2.ok) := hoy
      have HBwr : Hid (w.heap.size + 1 < wr.heap.size) := World.block_lt_of_cell? _ _ hcell
      have hrl : ∀ k, Value.ownBlock (.slice p n c) = some k → w.heap.size ≤ k := fun k e => by
        obtain ⟨_, hr, _⟩ := hst.row
        exact (hr.lt k e).1
      have HRL : Hid (∀ k, Value.ownBlock (.slice p n c) = some k → w.heap.size ≤ k) := hrl
      have HN1 : Hid (n = st'.length + 1) := hn1
      clear hst hlen hn1 hoy hrl
      go_wp2_with fail
      refine HT.mono ?_
      rintro e w1 ⟨v1, v2, rfl, f1, f2, ⟨p', n', c', hs', hrow'⟩, hk⟩
      have hB1 : Below w.heap.size w w1 := HR.out.2.2.2.2.2.trans (hk.below (by omega) (fun k e => by cases e) (by have := HBwr.out; omega))
      have HO := open_any W0 Bt w1 w.heap.size (w.heap.size + 1) 0 p' n' c' st' y v1 v2 hs' (HW.out.trans (hB1.mono HW.out.size)) HW.out.size (by omega) (by have := hs'.len; have := HN1.out; omega) f1 f2 HOY.out.1 HOY.out.2
      have HRL' : Hid (∀ k, Value.ownBlock (.slice p' n' c') = some k → w.heap.size ≤ k) := by show ∀ k, _ → _; rw [hrow']; exact HRL.out
      have HB1 : Hid (Below w.heap.size w w1) := hB1
      clear hs' hrow' hk hB1 HT f1 f2
      by_cases hy : y.1.1 = y.2.1
      · have hd : decide (y.1.1 = y.2.1) = true := by simpa using hy
        unfold OpenOut at HO
        rw [hd] at HO
        have HLD : Hid (load (st' ++ opened y) < gk ∧ sames (st' ++ opened y) = R ∧ (∀ z ∈ st' ++ opened y, z.1.ok ∧ z.2.ok)) := by
          obtain ⟨_, h2, h3, _, h5, _⟩ := HR.out
          refine ⟨?_, ?_, ?_⟩
          · have := load_opened y
            rw [← h3, load_append, load_append]
            simp [load]; omega
          · rw [sames_open _ _ hy (ok_count HOY.out.1 HOY.out.2 hy)]; exact h5
          · intro z hz
            rcases List.mem_append.1 hz with hz | hz
            · exact h2 z (by simp [hz])
            · exact opened_ok HOY.out.1 HOY.out.2 z hz
        clear hd hy
        go_wp2_with fail
        refine HO.mono ?_
        rintro e w2 ⟨rfl, ⟨p2, n2, c2, hs2, _⟩, hk2⟩
        have HS2 : Hid _ := hs2
        have HB2 : Hid (Below w.heap.size w w2) := HB1.out.trans (hk2.below (by omega) HRL'.out (by have := HB1.out.size; omega))
        clear hk2 HO hs2
        go_wp2_with fail
        go_roundg (load (st' ++ opened y))
        case measure => exact HLD.out.1
        case rel =>
          have h4 := HR.out.2.2.2.1
          have h1 := HLD.out.1
          exact ⟨p2, n2, c2, st' ++ opened y, HS2.out.cell, by have := HS2.out.len; have := len_load (st' ++ opened y); omega, HS2.out, HLD.out.2.2, rfl, by omega, HLD.out.2.1, HB2.out⟩
      · have hd : decide (y.1.1 = y.2.1) = false := by simpa using hy
        unfold OpenOut at HO
        rw [hd] at HO
        have HF : Hid (R = false) := by show _ = _; rw [← HR.out.2.2.2.2.1, sames_no _ _ hy]
        clear hd hy
        go_wp2_with fail
        refine HO.mono ?_
        rintro e w2 ⟨rfl, _, hk2⟩
        have HB2 : Hid (Below w.heap.size w w2) := HB1.out.trans (hk2.below (by omega) HRL'.out (by have := HB1.out.size; omega))
        clear hk2 HO
        go_wp2_with fail
        go_ret
        exact ⟨ret_bool HF.out.symm, HB2.out⟩
end Go.Proofs.YtfgaenggbbgboaaGreatDoor

namespace Go.Proofs.YtfgaenggbbgboaaGreatDoor
open Go Go.RowKit
set_option linter.unusedVariables false
def fS (c : Cel) : ByteArray := if c.1 = 2 ∨ c.1 = 3 then strOfNums c.2.2 else ⟨#[]⟩
def fA (c : Cel) : Int := if c.1 = 3 then c.2.1 else 0
theorem fo_any {w0 : World} {Bt : Nat} (c : Cel) (k : Fo) (v : Value) (w : World) (hok : (Fo.node c k .nil).ok) (hfo : FoIn w0 Bt (.node c k .nil) [v]) (hw : Below w0.heap.size w0 w) :
    Calls Tryz.prog 75 #[v] w fun e w' => e = .returned (.tuple #[.agg #[.string (fS c), .int .i64 (fA c)], .bool (calC c)]) ∧ Below w.heap.size w w' := by
  obtain ⟨v', vr, e, hn, _⟩ := hfo
  obtain ⟨rfl, rfl⟩ := List.cons.inj e
  rcases hn with ⟨h, rfl⟩ | ⟨h, rfl⟩ | ⟨h, rfl⟩ | ⟨h, b, g, vs, rfl, hcomp⟩
  · have e1 : fS c = ⟨#[]⟩ := by unfold fS; rw [if_neg (by omega)]
    have e2 : fA c = 0 := by unfold fA; rw [if_neg (by omega)]
    have e3 : calC c = false := by unfold calC; exact decide_eq_false (by omega)
    rw [e1, e2, e3]; exact nbFO_var _ w
  · have e1 : fS c = ⟨#[]⟩ := by unfold fS; rw [if_neg (by omega)]
    have e2 : fA c = 0 := by unfold fA; rw [if_neg (by omega)]
    have e3 : calC c = false := by unfold calC; exact decide_eq_false (by omega)
    rw [e1, e2, e3]; exact nbFO_num _ w
  · have e1 : fS c = strOfNums c.2.2 := by unfold fS; rw [if_pos (.inl h)]
    have e2 : fA c = 0 := by unfold fA; rw [if_neg (by omega)]
    have e3 : calC c = true := by unfold calC; exact decide_eq_true (.inl h)
    rw [e1, e2, e3]; exact nbFO_atom _ w
  · have e1 : fS c = strOfNums c.2.2 := by unfold fS; rw [if_pos (.inr h)]
    have e2 : fA c = vs.length := by unfold fA; rw [if_pos h, hok.2.2.1 h, FoIn.count k vs hcomp.2.2.2.2.2.2]
    have e3 : calC c = true := by unfold calC; exact decide_eq_true (.inr h)
    rw [e1, e2, e3]
    exact nbFO_comp b g vs.length _ w ((hw.cell (World.block_lt_of_cell? _ _ hcomp.2.2.1)).trans hcomp.2.2.1) ((hw.cell (World.block_lt_of_cell? _ _ hcomp.2.2.2.1)).trans hcomp.2.2.2.1)
theorem f_is {c : Cel} (hb : Byte c.2.2) (hc : cellB c.1 c.2.1 c.2.2.length = true) (l : List UInt8) (a : Int) (hl : l ≠ []) (ha : 0 < a) : ((fS c).toList = l ∧ fA c = a) ↔ c = (3, a, l.map fun u => (u.toNat : Int)) := by
  simp only [cellB, decide_eq_true_eq] at hc
  constructor
  · rintro ⟨h1, h2⟩
    unfold fA at h2
    by_cases h3 : c.1 = 3
    · rw [if_pos h3] at h2
      unfold fS at h1
      rw [if_pos (.inr h3)] at h1
      exact Prod.ext h3 (Prod.ext h2 ((str_eq hb l).1 h1))
    · rw [if_neg h3] at h2; omega
  · intro h
    have h3 : c.1 = 3 := by rw [h]
    have h4 : c.2.2 = l.map fun u => (u.toNat : Int) := by rw [h]
    refine ⟨?_, ?_⟩
    · unfold fS; rw [if_pos (.inr h3)]; exact (str_eq hb l).2 h4
    · unfold fA; rw [if_pos h3, h]
end Go.Proofs.YtfgaenggbbgboaaGreatDoor

namespace Go.Proofs.YtfgaenggbbgboaaGreatDoor
open Go Go.RowKit
set_option linter.unusedVariables false
theorem tree_one {c c' : Cel} {k k' : Fo} (h : c :: k.cells = c' :: k'.cells) (h1 : (Fo.node c k .nil).ok) (h2 : (Fo.node c' k' .nil).ok) : c = c' ∧ k = k' := by
  have hh := Fo.cells_inj (.node c k .nil) (.node c' k' .nil) [] [] h1 h2 rfl (by simp only [Fo.cells, List.append_nil]; exact h)
  have h5 := hh.1
  injection h5 with h6 h7
  exact ⟨h6, h7⟩
theorem sides_of {w0 : World} {Bt : Nat} {c : Cel} {k : Fo} {v : Value} (hok : (Fo.node c k .nil).ok) (hfo : FoIn w0 Bt (.node c k .nil) [v]) (hr : c = ruleC) :
    ∃ b g t1 x1 t2 x2, v = .iface 122 (.pointer (some ⟨b, 0, none⟩)) ∧ w0.cell? ⟨b, 1, none⟩ = some (.slice (some ⟨g, 0, none⟩) 2 2) ∧ w0.cell? ⟨g, 0, none⟩ = some (.iface t1 x1) ∧ w0.cell? ⟨g, 1, none⟩ = some (.iface t2 x2) ∧
      FoIn w0 Bt (.node (kid0 (c, k)).1 (kid0 (c, k)).2 .nil) [.iface t1 x1] ∧ FoIn w0 Bt (.node (kid1 (c, k)).1 (kid1 (c, k)).2 .nil) [.iface t2 x2] ∧ (Fo.node (kid0 (c, k)).1 (kid0 (c, k)).2 .nil).ok ∧ (Fo.node (kid1 (c, k)).1 (kid1 (c, k)).2 .nil).ok ∧ (kid0 (c, k)).2.cells.length + (kid1 (c, k)).2.cells.length + 2 = k.cells.length := by
  have h3 : c.1 = 3 := by rw [hr]; rfl
  have hcnt : k.count = 2 := by
    have h9 := hok.2.2.1 h3
    rw [hr] at h9
    have e2 : (ruleC.2.1 : Int) = 2 := rfl
    omega
  obtain ⟨c1, k1, c2, k2, rfl⟩ := two_of hcnt
  obtain ⟨v', vr, e, hn, _⟩ := hfo
  obtain ⟨rfl, rfl⟩ := List.cons.inj e
  rcases hn with ⟨h, rfl⟩ | ⟨h, rfl⟩ | ⟨h, rfl⟩ | ⟨h, b, g, vs, rfl, hcomp⟩
  · omega
  · omega
  · omega
  · obtain ⟨v1, vr1, e1, hn1, v2, vr2, e2, hn2, e3⟩ := hcomp.2.2.2.2.2.2
    have e3' : vr2 = [] := e3
    subst e3' e2
    subst e1
    obtain ⟨t1, x1, rfl⟩ := hn1.iface
    obtain ⟨t2, x2, rfl⟩ := hn2.iface
    have hk := hok.2.2.2.2.1
    have g0 := hcomp.2.2.2.2.2.1 0 (by simp)
    have g1 := hcomp.2.2.2.2.2.1 1 (by simp)
    simp only [List.getD_cons_zero, List.getD_cons_succ] at g0 g1
    exact ⟨b, g, t1, x1, t2, x2, rfl, hcomp.2.2.2.1, g0, g1, ⟨_, [], rfl, hn1, rfl⟩, ⟨_, [], rfl, hn2, rfl⟩, ⟨hk.1, hk.2.1, hk.2.2.1, hk.2.2.2.1, hk.2.2.2.2.1, trivial⟩, hk.2.2.2.2.2, by simp [kid0, kid1, trs, Fo.cells]; omega⟩
end Go.Proofs.YtfgaenggbbgboaaGreatDoor

namespace Go.Proofs.YtfgaenggbbgboaaGreatDoor
open Go Go.RowKit
set_option linter.unusedVariables false
def dolL (s : List Int) : Bool := s.head? == some 36
end Go.Proofs.YtfgaenggbbgboaaGreatDoor

