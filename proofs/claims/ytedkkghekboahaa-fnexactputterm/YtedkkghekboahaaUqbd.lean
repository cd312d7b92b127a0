/- Texts of PtT, PtU0, PtUA. Own work of the verifier. -/
import Derived.Test.YtedkkghekboahaaUqba
import Derived.Test.YtedkkghekboahaaUqbc
import Derived.Test.YtedkkghekboahaaUqas
import Derived.Test.YtedkkghekboahaaUqaw
import Derived.Test.YtedkkghekboahaaUqan
namespace Go.Proofs.Ytedkkghekboahaa
open Go Go.RowKit Go.Maps
set_option linter.unusedVariables false

/-- The word of a term that is put behind n words, and what is put there. -/
def ptA (n : Nat) (c : Cel) (k : Fo) : Cel × List Cel × PSt := put1 n c k n n []
/-- Is it a new variable? It has a word of its own. -/
def ptN (n : Nat) (c : Cel) (k : Fo) : Bool := decide ((ptA n c k).1.1 = 0 ∧ (ptA n c k).1.2.1 = (n : Int))
def ptB (n : Nat) (c : Cel) (k : Fo) : List Cel := (ptA n c k).2.1 ++ (if ptN n c k = true then [(ptA n c k).1] else [])
theorem ptA_kind (n : Nat) (c : Cel) (k : Fo) : (ptA n c k).1.1 = 0 ∨ (ptA n c k).1.1 = 1 ∨ (ptA n c k).1.1 = 2 ∨ (ptA n c k).1.1 = 4 := by
  unfold ptA put1 putH
  split
  · split
    · exact .inl rfl
    · split <;> exact .inl rfl
  · split
    · exact .inr (.inl rfl)
    · split
      · exact .inr (.inr (.inl rfl))
      · exact .inr (.inr (.inr rfl))

set_option maxHeartbeats 4000000 in
set_option maxRecDepth 100000 in
theorem put_any (B0 Bt Z h m mf : Nat) (lk : Int) (W0 : World) (tr : List Int) (hZ : Z = W0.heap.size) (c : Cel) (k : Fo) (v : Value) (V : List Value) (W : World) (hok : (Fo.node c k .nil).ok) (hfo : FoIn W0 Bt (.node c k .nil) [v]) (hV : V.length ≤ 20000) (hk : k.cells.length ≤ 2000) (H : PS B0 Bt Z h m mf 0 lk W0 tr V [] W) :
    Calls Try.prog 75 #[.agg #[.pointer (some ⟨h, 0, none⟩), .int .i64 (V.length : Nat), .map (some mf)], v] W fun e w' => e = .returned (wv (ptA V.length c k).1) ∧ (∃ N E, PS B0 Bt Z h m mf N lk W0 tr (V ++ (ptB V.length c k).map wv) E w') ∧ FrP h mf W w' := by
  obtain ⟨n0, en0⟩ : ∃ n0, n0 = V.length := ⟨_, rfl⟩
  rw [← en0]
  obtain ⟨W1, eW1⟩ : ∃ W1, W1 = W.alloc (.cells #[.pointer (some ⟨h, 0, none⟩), .int .i64 (n0 : Nat), .map (some mf)] 113) := ⟨_, rfl⟩
  have hb1 : Below W.heap.size W W1 := by rw [eW1]; exact (Below.refl _ _).alloc (Nat.le_refl _) _
  obtain ⟨bx, ebx⟩ : ∃ bx : Nat, bx = W.heap.size := ⟨_, rfl⟩
  have kb : W1.heap[bx]? = some (.cells #[.pointer (some ⟨h, 0, none⟩), .int .i64 (n0 : Nat), .map (some mf)] 113) := by rw [eW1, ebx]; exact heap_alloc_new _ _
  have hH1 : PS B0 Bt Z h m mf 0 lk W0 tr V [] W1 := H.below hb1
  have HC : Hid _ := word_any B0 Bt Z h m mf n0 lk W0 tr hZ (k.cells.length + 1) c k v n0 0 V [] W1 (Nat.lt_succ_self _) hok hfo (by omega) (by omega) (by omega) hH1
  obtain ⟨pw, cw, H1⟩ := hH1
  have hbh : bx ≠ h := fun e => by obtain ⟨⟨_, _, h0, _⟩, _⟩ := H1; rw [← e, kb] at h0; simp at h0
  have hbm : bx ≠ mf := fun e => by obtain ⟨_, _, h3, _⟩ := H1; obtain ⟨es, ck, h0⟩ := map_block h3; rw [← e, kb] at h0; cases h0
  have HBX : Hid (∀ w' : World, FrP h mf W1 w' → w'.heap[bx]? = some (.cells #[.pointer (some ⟨h, 0, none⟩), .int .i64 (n0 : Nat), .map (some mf)] 113)) := fun w' f => f.box kb hbh hbm (by decide)
  have HBC : Hid (∀ w' : World, w'.heap[bx]? = some (.cells #[.pointer (some ⟨h, 0, none⟩), .int .i64 (n0 : Nat), .map (some mf)] 113) → w'.cell? ⟨bx, 0, none⟩ = some (.pointer (some ⟨h, 0, none⟩)) ∧ w'.cell? ⟨bx, 1, none⟩ = some (.int .i64 (n0 : Nat)) ∧ w'.cell? ⟨bx, 2, none⟩ = some (.map (some mf))) := fun w' e => ⟨by simp [World.cell?, e], by simp [World.cell?, e], by simp [World.cell?, e]⟩
  have HW1 : Hid (FrP h mf W W1) := FrP.of_below hb1
  have HE1 : Hid _ := eW1
  have HVV : Hid (n0 = V.length) := en0
  obtain ⟨hc0, hf0⟩ := H1.cell
  obtain ⟨bc0, bc1, bc2⟩ := HBC.out W1 (HBX.out W1 (FrP.refl _ _ _))
  rw [← en0] at hc0 hV
  have HSZ : Hid (bx = W.heap.size) := ebx
  obtain ⟨vt, vx, rfl⟩ := hfo.iface
  have hdk := ptA_kind n0 c k
  have HEQ : ∀ W, (binOp .eql 70 (wv (ptA n0 c k).1) (.iface 100 (.int .i64 n0))).run Try.prog W = .ok (.bool (ptN n0 c k)) W := fun W => eqR_any W (ptA n0 c k).1 n0 hdk
  have HA : Hid (ptA n0 c k = put1 n0 c k n0 n0 []) := rfl
  rw [← en0, ← HA.out] at HC
  have HB : Hid ((ptA n0 c k).2.1.length ≤ 1 + 2 * k.cells.length) := put1_blk n0 c k n0 n0 [] (putL_blk n0 k)
  have HPB : Hid (ptB n0 c k = (ptA n0 c k).2.1 ++ (if ptN n0 c k = true then [(ptA n0 c k).1] else [])) := rfl
  rw [HPB.out]
  obtain ⟨ty, y, hvv⟩ := wv_iface (ptA n0 c k).1
  have HVI : Hid (wv (ptA n0 c k).1 = .iface ty y) := hvv
  rw [hvv] at HC HEQ ⊢
  generalize ptA n0 c k = A at HC HB HVI hdk ⊢
  generalize ptN n0 c k = nb at HEQ ⊢
  have HON : Hid ((Value.iface ty y).oneCell' = true) := rfl
  rw [HE1.out] at hc0 HC
  rw [HE1.out, ebx] at bc0 bc1 bc2
  clear hfo hok H H1 hb1 kb eW1 ebx en0 hbh hbm HA HPB hvv hdk hZ
  go_enter Try.func75, Try.ntmps75
  go_wp2_with fail
  refine Calls.mono HC.out ?_
  rintro e w2 ⟨rfl, hps2, hf2⟩
  have HF2 : Hid (FrP h mf W1 w2) := by rw [← HE1.out] at hf2; exact hf2
  rw [← HSZ.out] at bc0 bc1 bc2 ⊢
  have HPS2 : Hid (PS B0 Bt Z h m mf (0 + (1 + k.cells.length)) lk W0 tr (V ++ A.2.1.map wv) A.2.2 w2) := hps2
  clear hps2 hf2 HC bc0 bc1 bc2 hc0 hf0
  cases nb with
  | false =>
    have HQ : Hid ((∃ N E, PS B0 Bt Z h m mf N lk W0 tr (V ++ (A.2.1 ++ (if false = true then [A.1] else [])).map wv) E w2) ∧ FrP h mf W w2) := ⟨⟨_, _, by simpa using HPS2.out⟩, HW1.out.trans HF2.out⟩
    go_wp2_with fail
    first | exact ⟨rfl, by simpa using HQ.out⟩ | (go_ret; exact ⟨rfl, by simpa using HQ.out⟩)
  | true =>
    obtain ⟨pw2, cw2, hps⟩ := HPS2.out
    obtain ⟨L, eL⟩ : ∃ L, L = (V ++ A.2.1.map wv).length := ⟨_, rfl⟩
    have hLb : L ≤ 30000 := by rw [eL, List.length_append, List.length_map]; have := HB.out; have := HVV.out; omega
    obtain ⟨hc0, hf0⟩ := hps.cell
    rw [← eL] at hc0
    obtain ⟨bc0, bc1, bc2⟩ := HBC.out w2 (HBX.out w2 HF2.out)
    have HP : Hid (PSo B0 Bt Z h m mf (0 + (1 + k.cells.length)) lk W0 tr (V ++ A.2.1.map wv) A.2.2 pw2 cw2 w2) := hps
    have HL : Hid (L = (V ++ A.2.1.map wv).length) := eL
    clear hps HPS2 eL
    go_wp2_with fail
    refine wp_region_any (by kernel_rfl) ?_
    refine wpAny_tail (p := 11) (S := fun W => W.cell? ⟨bx, 0, none⟩ = some (.pointer (some ⟨h, 0, none⟩)) ∧ W.cell? ⟨h, 0, none⟩ = some (.slice pw2 L cw2)) (by kernel_rfl) 11 _ _ _ rfl (clo_start _ _ _) (by kernel_rfl) (by kernel_rfl) ?_
    change wpAnyH _ _ _ _ _ _ _ _ w2.drew
    have hS0 : w2.drew.cell? ⟨bx, 0, none⟩ = some (.pointer (some ⟨h, 0, none⟩)) ∧ w2.drew.cell? ⟨h, 0, none⟩ = some (.slice pw2 L cw2) := ⟨bc0, hc0⟩
    refine hTake (i := 0) (v := .pointer (some ⟨bx, 0, none⟩)) (some 21) (by kernel_rfl) (by kernel_rfl) (by kernel_rfl) (by kernel_rfl) (by kernel_rfl) (fun _ _ _ h => h) (fun o ho W hSw => ?y0) hS0 ?_
    case y0 =>
      cases ho
      simp [execOp, go_sem, Act.eval]
    simp only [Act.put, List.setIfInBounds_toArray, List.set_cons_zero, List.set_cons_succ]
    refine hTake (i := 1) (v := .pointer (some ⟨h, 0, none⟩)) (some 22) (by kernel_rfl) (by kernel_rfl) (by kernel_rfl) (by kernel_rfl) (by kernel_rfl) (fun _ _ _ h => h) (fun o ho W hSw => ?y1) hS0 ?_
    case y1 =>
      cases ho
      obtain ⟨t0, t1⟩ := hSw
      simp [execOp, go_sem, Act.eval, t0]
    simp only [Act.put, List.setIfInBounds_toArray, List.set_cons_zero, List.set_cons_succ]
    refine hTake (i := 2) (v := .pointer (some ⟨bx, 0, none⟩)) (some 23) (by kernel_rfl) (by kernel_rfl) (by kernel_rfl) (by kernel_rfl) (by kernel_rfl) (fun _ _ _ h => h) (fun o ho W hSw => ?y2) hS0 ?_
    case y2 =>
      cases ho
      simp [execOp, go_sem, Act.eval]
    simp only [Act.put, List.setIfInBounds_toArray, List.set_cons_zero, List.set_cons_succ]
    refine hTake (i := 3) (v := .pointer (some ⟨h, 0, none⟩)) (some 24) (by kernel_rfl) (by kernel_rfl) (by kernel_rfl) (by kernel_rfl) (by kernel_rfl) (fun _ _ _ h => h) (fun o ho W hSw => ?y3) hS0 ?_
    case y3 =>
      cases ho
      obtain ⟨t0, t1⟩ := hSw
      simp [execOp, go_sem, Act.eval, t0]
    simp only [Act.put, List.setIfInBounds_toArray, List.set_cons_zero, List.set_cons_succ]
    refine hTake (i := 4) (v := .pointer (some ⟨h, 0, none⟩)) (some 25) (by kernel_rfl) (by kernel_rfl) (by kernel_rfl) (by kernel_rfl) (by kernel_rfl) (fun _ _ _ h => h) (fun o ho W hSw => ?y4) hS0 ?_
    case y4 =>
      cases ho
      simp [execOp, go_sem, Act.eval]
    simp only [Act.put, List.setIfInBounds_toArray, List.set_cons_zero, List.set_cons_succ]
    refine hTake (i := 5) (v := .pointer (some ⟨h, 0, none⟩)) (some 26) (by kernel_rfl) (by kernel_rfl) (by kernel_rfl) (by kernel_rfl) (by kernel_rfl) (fun _ _ _ h => h) (fun o ho W hSw => ?y5) hS0 ?_
    case y5 =>
      cases ho
      simp [execOp, go_sem, Act.eval]
    simp only [Act.put, List.setIfInBounds_toArray, List.set_cons_zero, List.set_cons_succ]
    refine hTake (i := 6) (v := .slice pw2 L cw2) (some 27) (by kernel_rfl) (by kernel_rfl) (by kernel_rfl) (by kernel_rfl) (by kernel_rfl) (fun _ _ _ h => h) (fun o ho W hSw => ?y6) hS0 ?_
    case y6 =>
      cases ho
      obtain ⟨t0, t1⟩ := hSw
      simp [execOp, go_sem, Act.eval, t1]
    simp only [Act.put, List.setIfInBounds_toArray, List.set_cons_zero, List.set_cons_succ]
    refine hTake (i := 7) (v := .iface ty y) (some 28) (by kernel_rfl) (by kernel_rfl) (by kernel_rfl) (by kernel_rfl) (by kernel_rfl) (fun _ _ _ h => h) (fun o ho W hSw => ?y7) hS0 ?_
    case y7 =>
      cases ho
      simp [execOp, go_sem, Act.eval]
    simp only [Act.put, List.setIfInBounds_toArray, List.set_cons_zero, List.set_cons_succ]
    have hbA : Below w2.heap.size w2 (w2.drew.alloc (.cells #[.iface ty y] 70)) := (Below.refl _ _).drew.alloc (by simp) _
    have hlb : bx < w2.heap.size ∧ h < w2.heap.size := ⟨World.block_lt_of_cell? _ _ bc0, World.block_lt_of_cell? _ _ hc0⟩
    refine hStep (i := 8) (v := .slice (some ⟨w2.heap.size, 0, none⟩) 1 1) (w' := w2.drew.alloc (.cells #[.iface ty y] 70)) (some 29) (by kernel_rfl) (by kernel_rfl) (by kernel_rfl) (fun o ho => ?y8) ⟨(hbA.cell (p := ⟨bx, 0, none⟩) hlb.1).trans bc0, (hbA.cell (p := ⟨h, 0, none⟩) hlb.2).trans hc0⟩ ?_
    case y8 =>
      cases ho
      simp [execOp, go_sem, Act.eval]
    simp only [Act.put, List.setIfInBounds_toArray, List.set_cons_zero, List.set_cons_succ]
    obtain ⟨W4, eW4⟩ : ∃ W4, W4 = w2.drew.alloc (.cells #[.iface ty y] 70) := ⟨_, rfl⟩
    have kn : W4.cell? ⟨w2.heap.size, 0, none⟩ = some (.iface ty y) := by
      have kk := heap_alloc_new w2.drew (.cells #[.iface ty y] 70)
      rw [eW4]; unfold World.cell?
      have e : w2.drew.heap.size = w2.heap.size := rfl
      rw [e] at kk
      rw [kk]; rfl
    rw [← eW4]
    rw [← eW4] at hbA
    clear eW4
    have H4 : PSo B0 Bt Z h m mf (0 + (1 + k.cells.length)) lk W0 tr (V ++ A.2.1.map wv) A.2.2 pw2 cw2 W4 := HP.out.below hbA
    have hrow4 : W4.ownsRow (h + 1) 70 1 (.slice pw2 L cw2) L (V ++ A.2.1.map wv) := by have := H4.2.1; rw [← HL.out] at this; exact this
    obtain ⟨g5, cap5, w5, hr5, hown5, hg5, hat5⟩ := run_app_word W4 89 (h + 1) pw2 L cw2 (V ++ A.2.1.map wv) w2.heap.size 1 (.iface ty y) hrow4 kn HON.out (by omega) (by have := H4.lt; omega)
    have h5c : w5.heap[h]? = W4.heap[h]? := hg5.block h H4.lt (fun e => by have := (row_type hrow4 e.symm).1; omega)
    have h5b : w5.heap[bx]? = some (.cells #[.pointer (some ⟨h, 0, none⟩), .int .i64 (n0 : Nat), .map (some mf)] 113) := by
      have k4 := HBX.out W4 (HF2.out.trans (FrP.of_below hbA))
      refine (hg5.block bx (Array.getElem?_eq_some_iff.1 k4).1 (fun e => ?_)).trans k4
      obtain ⟨_, _, cur, hc⟩ := row_type hrow4 e.symm
      rw [k4] at hc; simp at hc
    have hS5 : w5.cell? ⟨bx, 0, none⟩ = some (.pointer (some ⟨h, 0, none⟩)) ∧ w5.cell? ⟨h, 0, none⟩ = some (.slice pw2 L cw2) := ⟨(HBC.out w5 h5b).1, by rw [World.cell?_of_block (a := ⟨h, 0, none⟩) h5c]; have := H4.cell.1; rw [← HL.out] at this; exact this⟩
    refine hStep (i := 9) (v := .slice (some ⟨g5, 0, none⟩) (L + 1) cap5) (w' := w5) (some 30) (by kernel_rfl) (by kernel_rfl) (by kernel_rfl) (fun o ho => ?y9) hS5 ?_
    case y9 =>
      cases ho
      exact exec_app rfl rfl rfl hr5
    simp only [Act.put, List.setIfInBounds_toArray, List.set_cons_zero, List.set_cons_succ]
    refine hTake (i := 10) (v := .pointer (some ⟨h, 0, none⟩)) (some 31) (by kernel_rfl) (by kernel_rfl) (by kernel_rfl) (by kernel_rfl) (by kernel_rfl) (fun _ _ _ h => h) (fun o ho W hSw => ?y10) hS5 ?_
    case y10 =>
      cases ho
      simp [execOp, go_sem, Act.eval]
    simp only [Act.put, List.setIfInBounds_toArray, List.set_cons_zero, List.set_cons_succ]
    refine wpAnyH_done (by kernel_rfl) ?_ _
    have f5 : w5.frozen? ⟨h, 0, none⟩ = false := by obtain ⟨⟨_, _, h0, _⟩, _⟩ := H4; exact frozen_of_row _ _ _ _ _ (h5c.trans h0)
    have HP6 : Hid (PSo B0 Bt Z h m mf (0 + (1 + k.cells.length)) lk W0 tr (V ++ A.2.1.map wv ++ [.iface ty y]) A.2.2 (some ⟨g5, 0, none⟩) cap5 (w5.setCell ⟨h, 0, none⟩ (.slice (some ⟨g5, 0, none⟩) (L + 1) cap5))) := H4.grow (by rw [List.length_append, ← HL.out]; rfl) hown5 (by rw [← HL.out]; exact hg5) (by rw [← HL.out]; exact hat5)
    have HF6 : Hid (FrP h mf W1 (w5.setCell ⟨h, 0, none⟩ (.slice (some ⟨g5, 0, none⟩) (L + 1) cap5))) := (HF2.out.trans (FrP.of_below hbA)).trans (H4.growF (by rw [← HL.out]; exact hg5) _)
    refine tail_store (some 32) (by rfl) (by rfl) (by rfl) (v := .pointer (some ⟨h, 0, none⟩)) ?_ (by rfl) (by rfl) (by rfl) (w' := w5.setCell ⟨h, 0, none⟩ (.slice (some ⟨g5, 0, none⟩) (L + 1) cap5)) ?_ ?_
    · simp [execOp, go_sem, Act.eval]
    · simp [execOp, go_sem, Act.eval, Act.put, hS5.2, f5]
    simp only [Act.put, List.setIfInBounds_toArray, List.set_cons_zero, List.set_cons_succ]
    clear hS5 hr5 hown5 hg5 hat5 h5c h5b f5 H4 hrow4 kn hbA hlb hS0 hc0 hf0 bc0 bc1 bc2
    generalize w5.setCell ⟨h, 0, none⟩ (.slice (some ⟨g5, 0, none⟩) (L + 1) cap5) = W6 at HP6 HF6 ⊢
    have HQ : Hid ((∃ N E, PS B0 Bt Z h m mf N lk W0 tr (V ++ (A.2.1 ++ (if true = true then [A.1] else [])).map wv) E W6) ∧ FrP h mf W W6) := by
      refine ⟨⟨0 + (1 + k.cells.length), A.2.2, ⟨some ⟨g5, 0, none⟩, cap5, ?_⟩⟩, HW1.out.trans HF6.out⟩
      have := HP6.out
      rw [← HVI.out] at this
      simpa using this
    clear HP6 HF6
    go_wp2
    first | exact ⟨rfl, by simpa using HQ.out⟩ | (go_ret; exact ⟨rfl, by simpa using HQ.out⟩)

end Go.Proofs.Ytedkkghekboahaa

namespace Go.Proofs.Ytedkkghekboahaa
open Go Go.RowKit Go.Maps
set_option linter.unusedVariables false

/-- The tree of valid cells. -/
noncomputable def treeOf (cs : List Cel) : Cel × Fo := by
  classical
  exact if h : ∃ t : Cel × Fo, cs = t.1 :: t.2.cells ∧ (Fo.node t.1 t.2 .nil).ok then Classical.choose h else ((0, 0, []), .nil)
theorem treeOf_spec {cs : List Cel} (hb : ∀ i, i < cs.length → Byte (cs.getD i Cel.none).2.2) (hv : validB cs = true) : cs = (treeOf cs).1 :: (treeOf cs).2.cells ∧ (Fo.node (treeOf cs).1 (treeOf cs).2 .nil).ok ∧ cs.length ≤ 2000 := by
  obtain ⟨c, k, h1, h2, h3⟩ := tree_of hb hv
  have h : ∃ t : Cel × Fo, cs = t.1 :: t.2.cells ∧ (Fo.node t.1 t.2 .nil).ok := ⟨(c, k), h1, h2⟩
  have e : treeOf cs = Classical.choose h := by unfold treeOf; rw [dif_pos h]
  rw [e]
  exact ⟨(Classical.choose_spec h).1, (Classical.choose_spec h).2, h3⟩
abbrev PAns := (List Cel × List Int) × Cel × Int
def noneP (code : Int) : PAns := (([], []), (0, 0, []), code)
/-- What is put behind a store. -/
noncomputable def putT (xs : List Cel) (tr : List Int) (t : Cel × Fo) : PAns :=
  if xs.length + (ptB xs.length t.1 t.2).length ≤ 20000 then ((xs ++ ptB xs.length t.1 t.2, tr), (ptA xs.length t.1 t.2).1, 0) else noneP 10
/-- What PutTerm answers. -/
noncomputable def putA (xs : List Cel) (tr : List Int) (cs : List Cel) : PAns :=
  if storeB xs tr = true then (if validB cs = true then (if canB xs cs = true then putT xs tr (treeOf cs) else noneP 1) else noneP 1) else noneP 1
/-- An answer of a store, a word and a code: trail, cells and text each in their own part of what is new. -/
def PutAns (A : PAns) (w : World) (e : Ending) (w' : World) : Prop :=
  ∃ p q tp c1 c2 tc M U, e = .returned (.tuple #[.agg #[.slice p A.1.1.length c1, .slice q A.1.2.length c2], .agg #[.int .i64 A.2.1.1, .int .i64 A.2.1.2.1, .slice tp A.2.1.2.2.length tc], .int .i64 A.2.2]) ∧ OwnIU w' w.heap.size M q A.1.2.length c2 A.1.2 ∧ OwnCU w' M U p A.1.1.length c1 A.1.1 ∧ OwnT w' U tp A.2.1.2.2.length tc A.2.1.2.2 ∧ w.heap.size ≤ M ∧ M ≤ U ∧ U ≤ w'.heap.size ∧ Below w.heap.size w w'
theorem OwnT.nilT (w : World) (B : Nat) : OwnT w B none 0 0 [] := ⟨rfl, fun h => absurd h (Nat.lt_irrefl 0)⟩
theorem PutAns.none {w w' : World} (code : Int) (hb : Below w.heap.size w w') : PutAns (noneP code) w (.returned (.tuple #[.agg #[.slice none 0 0, .slice none 0 0], .agg #[.int .i64 0, .int .i64 0, .slice none 0 0], .int .i64 code])) w' :=
  ⟨Option.none, Option.none, Option.none, 0, 0, 0, w.heap.size, w.heap.size, rfl, ⟨OwnI.nil _ _ _, fun g e => by cases e⟩, OwnCU.nil _ _ _, OwnT.nilT _ _, Nat.le_refl _, Nat.le_refl _, hb.size, hb⟩
/-- Two boxes written one behind the other. -/
theorem put5 {W : World} {b4 b5 : Nat} {x0 x1 y0 y1 y2 : Value} (h2 : Box2 W b4 x0 x1) (h3 : Box3 W b5 y0 y1 y2) (ne : b4 ≠ b5) (v0 v1 u0 u1 u2 : Value) :
    Box2 (((((W.setCell ⟨b4, 0, none⟩ v0).setCell ⟨b4, 1, none⟩ v1).setCell ⟨b5, 0, none⟩ u0).setCell ⟨b5, 1, none⟩ u1).setCell ⟨b5, 2, none⟩ u2) b4 v0 v1 ∧ Box3 (((((W.setCell ⟨b4, 0, none⟩ v0).setCell ⟨b4, 1, none⟩ v1).setCell ⟨b5, 0, none⟩ u0).setCell ⟨b5, 1, none⟩ u1).setCell ⟨b5, 2, none⟩ u2) b5 u0 u1 u2 := by
  have n1 : ∀ i j, (⟨b4, i, none⟩ : Addr) ≠ ⟨b5, j, none⟩ := fun i j e => ne (congrArg Addr.block e)
  have n2 : ∀ i j, (⟨b5, i, none⟩ : Addr) ≠ ⟨b4, j, none⟩ := fun i j e => ne (congrArg Addr.block e).symm
  constructor
  · obtain ⟨d0, d1, d2⟩ := h2.put v0 v1
    refine ⟨?_, ?_, fun j => ?_⟩
    · rw [World.cell?_setCell_other _ _ _ _ (n2 _ _), World.cell?_setCell_other _ _ _ _ (n2 _ _), World.cell?_setCell_other _ _ _ _ (n2 _ _)]; exact d0
    · rw [World.cell?_setCell_other _ _ _ _ (n2 _ _), World.cell?_setCell_other _ _ _ _ (n2 _ _), World.cell?_setCell_other _ _ _ _ (n2 _ _)]; exact d1
    · simpa using d2 j
  · refine Box3.put (u0 := y0) (u1 := y1) (u2 := y2) ⟨?_, ?_, ?_, fun j => ?_⟩ u0 u1 u2
    · rw [World.cell?_setCell_other _ _ _ _ (n1 _ _), World.cell?_setCell_other _ _ _ _ (n1 _ _)]; exact h3.1
    · rw [World.cell?_setCell_other _ _ _ _ (n1 _ _), World.cell?_setCell_other _ _ _ _ (n1 _ _)]; exact h3.2.1
    · rw [World.cell?_setCell_other _ _ _ _ (n1 _ _), World.cell?_setCell_other _ _ _ _ (n1 _ _)]; exact h3.2.2.1
    · simpa using h3.2.2.2 j
/-- The word of a term. -/
theorem ptA_form (n : Nat) (c : Cel) (k : Fo) (hb : Byte c.2.2) : (∃ a, (ptA n c k).1 = (0, a, [])) ∨ (∃ a, (ptA n c k).1 = (1, a, [])) ∨ (∃ t, (ptA n c k).1 = (2, 0, t) ∧ Byte t) ∨ (∃ a, (ptA n c k).1 = (4, a, [])) := by
  unfold ptA put1 putH
  split
  · split
    · exact .inl ⟨_, rfl⟩
    · split <;> exact .inl ⟨_, rfl⟩
  · split
    · exact .inr (.inl ⟨_, rfl⟩)
    · split
      · exact .inr (.inr (.inl ⟨_, rfl, hb⟩))
      · exact .inr (.inr (.inr ⟨_, rfl⟩))
/-- All that is put can stand in a heap. -/
theorem ptB_fine (n : Nat) (c : Cel) (k : Fo) (hok : (Fo.node c k .nil).ok) (hn : n ≤ 20000) (hk : k.cells.length ≤ 2000) : (∀ d ∈ ptB n c k, FineC d) ∧ FineC (ptA n c k).1 := by
  obtain ⟨o1, o2, o3, o4, o5, _⟩ := hok
  have hcl := Fo.count_le k
  obtain ⟨a1, a2, _⟩ := put1_fine n c k n n [] (by omega) o1 o2 (fun x a h => by simp [look] at h) (fun _ => putL_fine n k (n + 1) (n + 1 + k.count) [] o5 (by omega) (by omega) (fun x a h => by simp [look] at h))
  refine ⟨fun d hd => ?_, a1⟩
  unfold ptB at hd
  rcases List.mem_append.1 hd with h | h
  · exact a2 d h
  · split at h
    · rw [List.mem_singleton.1 h]; exact a1
    · cases h
theorem PS.at {B0 Bt Z h m mf N : Nat} {lk : Int} {W0 W : World} {tr : List Int} {X : List Cel} {E : PSt} (H : PS B0 Bt Z h m mf N lk W0 tr (X.map wv) E W) : HeapAt W h X tr := by
  obtain ⟨pw, cw, ⟨pt, ct, h0, h1⟩, h2, _⟩ := H
  rw [List.length_map] at h0 h2
  refine ⟨pw, cw, pt, ct, by simp [World.cell?, h0], by simp [World.cell?, h0], fun hn => ?_, h1.iin⟩
  obtain ⟨g, cap, hv, hB, hg⟩ := h2.form hn
  simp only [Value.slice.injEq, true_and] at hv
  obtain ⟨rfl, rfl⟩ := hv
  refine ⟨g, rfl, fun i hi => ?_⟩
  rw [h2.cellAt i (by omega)]
  simp [List.getD, hi]
/-- A heap that was made, with a tree that was made behind it. -/
theorem ps_start {wA wT wC W : World} {h m mf B0 : Nat} {xs : List Cel} {tr : List Int} (H : HeapO wA h xs tr m 0) (hB : B0 ≤ m) (hA : Below wA.heap.size wA wC) (hW : Below wC.heap.size wC W) (hm : VMap W mf 0 []) (hmf : wC.heap.size ≤ mf) : PS B0 wA.heap.size wC.heap.size h m mf 0 0 wC tr (xs.map wv) [] W := by
  have hl := H.lt
  obtain ⟨pw, cw, pt, ct, h0, h1, h2, h3⟩ := H
  have hAW : Below wA.heap.size wA W := Below.on hA hW
  have hsz := hA.size
  refine ⟨pw, cw, ⟨pt, ct, ?_, h2.below hAW⟩, ?_, hm, fun g hg => ?_, ⟨hl, hsz, hmf, by omega⟩, hW.size, fun b _ b2 => hW.block b b2, hW.mono (by omega)⟩
  · rw [List.length_map]; exact (hAW.block h hl).trans h0
  · rw [List.length_map]; exact row_below h1 hAW
  · rw [List.length_map] at hg
    exact .inl (h1.lt g hg).2



end Go.Proofs.Ytedkkghekboahaa

namespace Go.Proofs.Ytedkkghekboahaa
open Go Go.RowKit Go.Maps
set_option linter.unusedVariables false

set_option maxHeartbeats 8000000 in
set_option maxRecDepth 100000 in
theorem implPut_a (p q pt : Option Addr) (c1 c2 cap : Nat) (cs xs : List Cel) (tr : List Int) (w : World) (hx : xs.length ≤ 1000000000) (hy : tr.length ≤ 1000000000) (hz : cs.length ≤ cap) (hcm : cap ≤ 1000000000) (hbx : ∀ a, a < xs.length → Byte (xs.getD a Cel.none).2.2) (hbc : ∀ i, i < cs.length → Byte (cs.getD i Cel.none).2.2) (hc : CIn w p xs) (hi : IIn w q tr) (hin : CIn w pt cs) (hs : storeB xs tr = false) :
    Calls Try.prog 35 #[.agg #[.slice p xs.length c1, .slice q tr.length c2], .slice pt cs.length cap] w (PutAns (putA xs tr cs) w) := by
  obtain ⟨W0, eW0⟩ : ∃ W0, W0 = ((w.alloc (.cells #[.slice p xs.length c1, .slice q tr.length c2] 36)).alloc (.cells #[.slice none 0 0, .slice none 0 0] 36)).alloc (.cells #[.int .i64 0, .int .i64 0, .slice none 0 0] 31) := ⟨_, rfl⟩
  have hb0 : Below w.heap.size w W0 := by
    rw [eW0]; exact (((Below.refl _ _).alloc (Nat.le_refl _) _).alloc (by simp) _).alloc (by simp; omega) _
  have k0 := heap_three w (.cells #[.slice p xs.length c1, .slice q tr.length c2] 36) (.cells #[.slice none 0 0, .slice none 0 0] 36) (.cells #[.int .i64 0, .int .i64 0, .slice none 0 0] 31)
  rw [← eW0] at k0
  obtain ⟨k1, k2⟩ := k0
  have hz0 : W0.heap.size = w.heap.size + 1 + 1 + 1 := by rw [eW0]; simp
  have HBX : Hid (∀ W, Below W0.heap.size W0 W → Box2 W (w.heap.size + 1) (.slice none 0 0) (.slice none 0 0)) := fun W hW => Box2.of_block ((hW.block (w.heap.size + 1) (by omega)).trans k1)
  have HCX : Hid (∀ W, Below W0.heap.size W0 W → Box3 W (w.heap.size + 1 + 1) (.int .i64 0) (.int .i64 0) (.slice none 0 0)) := fun W hW => Box3.of_block ((hW.block (w.heap.size + 1 + 1) (by omega)).trans k2)
  have HO := heapOf_any p q c1 c2 xs tr W0 hx hy (hc.below hb0) (hi.below hb0)
  have HIN : Hid (∀ W, Below W0.heap.size W0 W → CIn W pt cs) := fun W hW => hin.below (Below.on hb0 hW)
  have HB0 : Hid (∀ W v0 v1 u0 u1 u2, Below W0.heap.size W0 W → Below w.heap.size w (((((W.setCell ⟨w.heap.size + 1, 0, none⟩ v0).setCell ⟨w.heap.size + 1, 1, none⟩ v1).setCell ⟨w.heap.size + 1 + 1, 0, none⟩ u0).setCell ⟨w.heap.size + 1 + 1, 1, none⟩ u1).setCell ⟨w.heap.size + 1 + 1, 2, none⟩ u2)) := fun W v0 v1 u0 u1 u2 hW => below_put3 (below_put2 (Below.on hb0 hW) (by omega) _ _) (by omega) _ _ _
  have HE0 : Hid _ := eW0
  have HZ0 : Hid _ := hz0
  have HVT : Hid (∀ W, Below W0.heap.size W0 W → Calls Try.prog 71 #[.slice pt cs.length cap] W fun e w' => e = .returned (.bool (validB cs)) ∧ Below W.heap.size W w') := fun W hW => implValid_any pt cap cs W (by omega) (HIN.out W hW)
  clear hc hi hin hb0 k1 k2 hz0
  unfold HeapOut at HO
  rw [eW0] at HO
  clear eW0
  have HA : Hid (putA xs tr cs = noneP 1) := by show _ = _; unfold putA; rw [if_neg (by simp [hs])]
  · rw [HA.out]
    rw [hs] at HO
    clear hs HA HIN HVT hbx hbc
    go_enter Try.func35, Try.ntmps35
    go_wp2_with fail
    refine HO.mono ?_
    rintro e w1 ⟨v, rfl, hb, _⟩
    rw [← HE0.out] at hb
    have HBn : Hid (Below W0.heap.size W0 w1) := hb
    clear hb HO
    have HR : Hid _ := put5 (HBX.out w1 HBn.out) (HCX.out w1 HBn.out) (by omega) (.slice none 0 0) (.slice none 0 0) (.int .i64 0) (.int .i64 0) (.slice none 0 0)
    have HBF : Hid _ := HB0.out w1 (.slice none 0 0) (.slice none 0 0) (.int .i64 0) (.int .i64 0) (.slice none 0 0) HBn.out
    obtain ⟨x0, x1, x2⟩ := HBX.out w1 HBn.out
    obtain ⟨y0, y1, y2, y3⟩ := HCX.out w1 HBn.out
    clear HBX HCX HB0
    go_wp2
    obtain ⟨⟨d0, d1, _⟩, d2, d3, d4, _⟩ := HR.out
    exact bodyPost_ret (v := .tuple #[.agg #[.slice none 0 0, .slice none 0 0], .agg #[.int .i64 0, .int .i64 0, .slice none 0 0], .int .i64 1]) (by simp [results, Try.results35, go_sem, d0, d1, d2, d3, d4]) rfl (PutAns.none 1 HBF.out)

end Go.Proofs.Ytedkkghekboahaa

