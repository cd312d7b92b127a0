/- Texts of PtS, PtW. Own work of the verifier. -/
import Derived.Test.YtedkkghekboahaaUqax
import Derived.Test.YtedkkghekboahaaUqav
namespace Go.Proofs.Ytedkkghekboahaa
open Go Go.RowKit Go.Maps
set_option linter.unusedVariables false

/-- What word and structure leave. -/
def PutOut (B0 Bt Z h m mf : Nat) (lk : Int) (W0 : World) (tr : List Int) (r : Value) (N : Nat) (V : List Value) (E : PSt) (W : World) (e : Ending) (w' : World) : Prop := e = .returned r ∧ PS B0 Bt Z h m mf N lk W0 tr V E w' ∧ FrP h mf W w'
/-- The contract of word at trees with less than so many cells below. -/
def WordOk (B0 Bt Z h m mf base : Nat) (lk : Int) (W0 : World) (tr : List Int) (n : Nat) : Prop := ∀ (c : Cel) (k : Fo) (v : Value) (pl N : Nat) (V : List Value) (E : PSt) (W : World), k.cells.length < n → (Fo.node c k .nil).ok → FoIn W0 Bt (.node c k .nil) [v] → pl ≤ 1000000 → V.length + 2 * (1 + k.cells.length) ≤ 1000000 → N + (1 + k.cells.length) ≤ 1000000 → PS B0 Bt Z h m mf N lk W0 tr V E W →
  Calls Try.prog 100 #[.agg #[.pointer (some ⟨h, 0, none⟩), .int .i64 base, .map (some mf)], v, .int .i64 pl] W (PutOut B0 Bt Z h m mf lk W0 tr (wv (put1 base c k pl V.length E).1) (N + (1 + k.cells.length)) (V ++ (put1 base c k pl V.length E).2.1.map wv) (put1 base c k pl V.length E).2.2 W)
/-- The words while the parts are put: so many are there. -/
def midV (V : List Value) (f : Value) (n j : Nat) (R : List Cel × List Cel × PSt) : List Value := V ++ (f :: (R.1.map wv ++ (List.replicate (n - j) .nilIface ++ R.2.1.map wv)))
theorem midV_len (V : List Value) (f : Value) (n j : Nat) (R : List Cel × List Cel × PSt) (h : R.1.length = j) (hj : j ≤ n) : (midV V f n j R).length = V.length + 1 + n + R.2.1.length := by simp [midV, h]; omega
theorem midV_step (V : List Value) (f v : Value) (n j : Nat) (R : List Cel × List Cel × PSt) (A : Cel × List Cel × PSt) (h : R.1.length = j) (hj : j < n) : ((midV V f n j R) ++ A.2.1.map wv).set (V.length + (1 + j)) (wv A.1) = midV V f n (j + 1) (R.1 ++ [A.1], R.2.1 ++ A.2.1, A.2.2) := by
  unfold midV
  simp only [List.map_append, List.map_cons, List.map_nil]
  rw [List.append_assoc, List.set_append_right _ _ (by omega), show V.length + (1 + j) - V.length = j + 1 by omega, List.cons_append, List.set_cons_succ, List.append_assoc, List.set_append_right _ _ (by simp; omega), List.length_map, h, show j - j = 0 by omega, show n - j = (n - (j + 1)) + 1 by omega, List.replicate_succ]
  simp [List.append_assoc]
theorem putL_snoc (base : Int) (x : Fo) (c : Cel) (k : Fo) (p L : Nat) (s : PSt) : putL base (x.cat (.node c k .nil)) p L s = ((putL base x p L s).1 ++ [(put1 base c k (p + x.count) (L + (putL base x p L s).2.1.length) (putL base x p L s).2.2).1], (putL base x p L s).2.1 ++ (put1 base c k (p + x.count) (L + (putL base x p L s).2.1.length) (putL base x p L s).2.2).2.1, (put1 base c k (p + x.count) (L + (putL base x p L s).2.1.length) (putL base x p L s).2.2).2.2) := by
  rw [putL_cat, putL_node]
  simp [putN, putL]
theorem tail_store {P : Program} {ops : Array Oper} {Q : Exit → Act → World → Prop} {p q : Nat} {o o2 : Oper} {a : Act} {w w' : World} {v : Value} (d : Option Tmp) (hi : ops[p]? = some o) (hd : o.dst = d) (hg : o.guard = none) (hr : (execOp a.eval o).run P w = .ok (.value v) w) (hi2 : ops[q]? = some o2) (hg2 : o2.guard = none) (hd2 : o2.dst = none)
    (hr2 : (execOp (a.put d v).eval o2).run P w = .ok .skip w') (h : Q .normal (a.put d v) w') : RestQ Q (wpOp P ops Q p (wpOp P ops Q q (Q .normal))) .normal a w := by
  subst hd
  show wpOp P ops Q p (wpOp P ops Q q (Q .normal)) a w
  exact op_valT hi hg hr (op_skipS hi2 hg2 hd2 hr2 h)
theorem one_functor (s : ByteArray) (q : Int) : (Value.iface 131 (.agg #[.string s, .int .i64 q])).oneCell' = true := rfl

set_option maxHeartbeats 8000000 in
set_option maxRecDepth 100000 in
theorem struct_any (B0 Bt Z h m mf base : Nat) (lk : Int) (W0 : World) (tr : List Int) (hZ : Z = W0.heap.size) (k : Fo) (nm : List Int) (b g : Nat) (vs : List Value) (hko : k.ok) (hb : Bt ≤ b) (hgg : Bt ≤ g) (hgz : g < W0.heap.size)
    (c0 : W0.cell? ⟨b, 0, none⟩ = some (.string (strOfNums nm))) (c1 : W0.cell? ⟨b, 1, none⟩ = some (.slice (some ⟨g, 0, none⟩) vs.length vs.length)) (cg : ∀ i, i < vs.length → W0.cell? ⟨g, i, none⟩ = some (vs.getD i .nilIface)) (hfo : FoIn W0 Bt k vs) (h1c : 1 ≤ k.count)
    (IH : WordOk B0 Bt Z h m mf base lk W0 tr k.cells.length) (V : List Value) (E : PSt) (N : Nat) (W : World) (hV : V.length + 2 * (1 + k.cells.length) ≤ 1000000) (hN : N + k.cells.length ≤ 1000000) (H : PS B0 Bt Z h m mf N lk W0 tr V E W) :
    Calls Try.prog 114 #[.agg #[.pointer (some ⟨h, 0, none⟩), .int .i64 base, .map (some mf)], .pointer (some ⟨b, 0, none⟩)] W (PutOut B0 Bt Z h m mf lk W0 tr (.int .i64 V.length) (N + k.cells.length) (V ++ ((3, (k.count : Int), nm) :: ((putL base k (V.length + 1) (V.length + 1 + k.count) E).1 ++ (putL base k (V.length + 1) (V.length + 1 + k.count) E).2.1)).map wv) (putL base k (V.length + 1) (V.length + 1 + k.count) E).2.2 W) := by
  have hvc : vs.length = k.count := FoIn.count _ _ hfo
  have hcl := Fo.count_le k
  have hbz : b < Z := by rw [hZ]; exact World.block_lt_of_cell? _ _ c0
  obtain ⟨W1, eW1⟩ : ∃ W1, W1 = W.alloc (.cells #[.pointer (some ⟨h, 0, none⟩), .int .i64 base, .map (some mf)] 113) := ⟨_, rfl⟩
  have hb1 : Below W.heap.size W W1 := by rw [eW1]; exact (Below.refl _ _).alloc (Nat.le_refl _) _
  obtain ⟨bx, ebx⟩ : ∃ bx : Nat, bx = W.heap.size := ⟨_, rfl⟩
  have kb : W1.heap[bx]? = some (.cells #[.pointer (some ⟨h, 0, none⟩), .int .i64 base, .map (some mf)] 113) := by rw [eW1, ebx]; exact heap_alloc_new _ _
  have hH1 : PS B0 Bt Z h m mf N lk W0 tr V E W1 := H.below hb1
  obtain ⟨pw, cw, H1⟩ := hH1
  have hbh : bx ≠ h := fun e => by obtain ⟨⟨_, _, h0, _⟩, _⟩ := H1; rw [← e, kb] at h0; simp at h0
  have hbm : bx ≠ mf := fun e => by obtain ⟨_, _, h3, _⟩ := H1; obtain ⟨es, ck, h0⟩ := map_block h3; rw [← e, kb] at h0; cases h0
  -- what a later world keeps
  have HBX : Hid (∀ w' : World, FrP h mf W1 w' → w'.heap[bx]? = some (.cells #[.pointer (some ⟨h, 0, none⟩), .int .i64 base, .map (some mf)] 113)) := fun w' f => f.box kb hbh hbm (by decide)
  have HBC : Hid (∀ w' : World, w'.heap[bx]? = some (.cells #[.pointer (some ⟨h, 0, none⟩), .int .i64 base, .map (some mf)] 113) → w'.cell? ⟨bx, 0, none⟩ = some (.pointer (some ⟨h, 0, none⟩)) ∧ w'.cell? ⟨bx, 1, none⟩ = some (.int .i64 base) ∧ w'.cell? ⟨bx, 2, none⟩ = some (.map (some mf))) := fun w' e => ⟨by simp [World.cell?, e], by simp [World.cell?, e], by simp [World.cell?, e]⟩
  have HTC : Hid (∀ N' V' E' w', PS B0 Bt Z h m mf N' lk W0 tr V' E' w' → w'.cell? ⟨b, 0, none⟩ = some (.string (strOfNums nm)) ∧ w'.cell? ⟨b, 1, none⟩ = some (.slice (some ⟨g, 0, none⟩) k.count k.count) ∧ ∀ i, i < k.count → w'.cell? ⟨g, i, none⟩ = some (vs.getD i .nilIface)) := fun N' V' E' w' h' => by
    rw [hvc] at c1 cg
    exact ⟨h'.tree hb hbz c0, h'.tree hb hbz c1, fun i hi => h'.tree hgg (by omega) (cg i hi)⟩
  have HW1 : Hid (FrP h mf W W1) := FrP.of_below hb1
  have HE1 : Hid _ := eW1
  obtain ⟨n0, en0⟩ : ∃ n0, n0 = V.length := ⟨_, rfl⟩
  obtain ⟨st, est⟩ : ∃ st, st = strOfNums nm := ⟨_, rfl⟩
  rw [← est] at HTC
  obtain ⟨nk, enk⟩ : ∃ nk, nk = k.count := ⟨_, rfl⟩
  have HNK : Hid (nk = k.count) := enk
  obtain ⟨hc0, hf0⟩ := H1.cell
  obtain ⟨bc0, bc1, bc2⟩ := HBC.out W1 kb
  obtain ⟨tc0, tc1, _⟩ := HTC.out _ _ _ W1 ⟨pw, cw, H1⟩
  rw [← enk] at tc1
  have HFN : Hid (∀ j, Calls Try.prog 119 #[.pointer (some ⟨b, 0, none⟩)] (W1.drewN j) fun e w' => e = .returned (.agg #[.string st, .int .i64 nk]) ∧ Below W1.heap.size (W1.drewN j) w') := fun j => by
    have := functor_any b g nk st (W1.drewN j) (by simpa using tc0) (by simpa using tc1)
    simpa using this
  rw [← en0] at hc0 hV
  have hnk20 : nk ≤ 1000000 := by omega
  have HVV : Hid (n0 = V.length) := en0
  have HST : Hid (st = strOfNums nm) := est
  have HPO : Hid (PSo B0 Bt Z h m mf N lk W0 tr V E pw cw W1) := H1
  have HIH : Hid (WordOk B0 Bt Z h m mf base lk W0 tr k.cells.length) := IH
  have HFO : Hid (FoIn W0 Bt k vs) := hfo
  have HKO : Hid k.ok := hko
  have hnn : n0 + nk + 1 ≤ 3000000 := by omega
  have HBD : Hid (V.length + 2 * (1 + k.cells.length) ≤ 1000000 ∧ N + k.cells.length ≤ 1000000 ∧ k.count ≤ k.cells.length ∧ 1 ≤ k.count) := ⟨by omega, hN, hcl, h1c⟩
  have h1nk : 1 ≤ nk := by omega
  have HSZ : Hid (bx = W.heap.size) := ebx
  have HLB : Hid (bx < W1.heap.size ∧ h < W1.heap.size) := ⟨(Array.getElem?_eq_some_iff.1 kb).1, H1.lt⟩
  clear hZ hfo IH cg c0 c1 hbz hgz H H1 hko hvc hcl est hb hgg tc0 hN h1c kb hb1 eW1 hbh hbm
  rw [HE1.out, ebx] at bc0 bc1 bc2
  rw [HE1.out] at hc0
  generalize hR : PutOut B0 Bt Z h m mf lk W0 tr (.int .i64 V.length) = RR
  have HRR : Hid (PutOut B0 Bt Z h m mf lk W0 tr (.int .i64 V.length) = RR) := hR
  clear hR ebx en0
  go_enter Try.func114, Try.ntmps114
  go_wp2
  rw [← HE1.out, ← HSZ.out]
  rw [← HE1.out, ← HSZ.out] at bc0 bc1 bc2
  rw [← HE1.out] at hc0
  refine wp_region_any (by kernel_rfl) ?_
  refine wpAny_tail (p := 13) (S := fun W => W.cell? ⟨bx, 0, none⟩ = some (.pointer (some ⟨h, 0, none⟩)) ∧ W.cell? ⟨h, 0, none⟩ = some (.slice pw n0 cw)) (by kernel_rfl) 13 _ _ _ rfl (clo_start _ _ _) (by kernel_rfl) (by kernel_rfl) ?_
  change wpAnyH _ _ _ _ _ _ _ _ W1.drew
  have hS0 : W1.drew.cell? ⟨bx, 0, none⟩ = some (.pointer (some ⟨h, 0, none⟩)) ∧ W1.drew.cell? ⟨h, 0, none⟩ = some (.slice pw n0 cw) := ⟨bc0, hc0⟩
  refine hTake (i := 0) (v := .pointer (some ⟨bx, 0, none⟩)) (some 16) (by kernel_rfl) (by kernel_rfl) (by kernel_rfl) (by kernel_rfl) (by kernel_rfl) (fun _ _ _ h => h) (fun o ho W hSw => ?y0) hS0 ?_
  case y0 =>
    cases ho
    simp [execOp, go_sem, Act.eval]
  simp only [Act.put, List.setIfInBounds_toArray, List.set_cons_zero, List.set_cons_succ]
  refine hTake (i := 1) (v := .pointer (some ⟨h, 0, none⟩)) (some 17) (by kernel_rfl) (by kernel_rfl) (by kernel_rfl) (by kernel_rfl) (by kernel_rfl) (fun _ _ _ h => h) (fun o ho W hSw => ?y1) hS0 ?_
  case y1 =>
    cases ho
    obtain ⟨t0, t1⟩ := hSw
    simp [execOp, go_sem, Act.eval, t0]
  simp only [Act.put, List.setIfInBounds_toArray, List.set_cons_zero, List.set_cons_succ]
  refine hTake (i := 2) (v := .pointer (some ⟨bx, 0, none⟩)) (some 18) (by kernel_rfl) (by kernel_rfl) (by kernel_rfl) (by kernel_rfl) (by kernel_rfl) (fun _ _ _ h => h) (fun o ho W hSw => ?y2) hS0 ?_
  case y2 =>
    cases ho
    simp [execOp, go_sem, Act.eval]
  simp only [Act.put, List.setIfInBounds_toArray, List.set_cons_zero, List.set_cons_succ]
  refine hTake (i := 3) (v := .pointer (some ⟨h, 0, none⟩)) (some 19) (by kernel_rfl) (by kernel_rfl) (by kernel_rfl) (by kernel_rfl) (by kernel_rfl) (fun _ _ _ h => h) (fun o ho W hSw => ?y3) hS0 ?_
  case y3 =>
    cases ho
    obtain ⟨t0, t1⟩ := hSw
    simp [execOp, go_sem, Act.eval, t0]
  simp only [Act.put, List.setIfInBounds_toArray, List.set_cons_zero, List.set_cons_succ]
  refine hTake (i := 4) (v := .pointer (some ⟨h, 0, none⟩)) (some 20) (by kernel_rfl) (by kernel_rfl) (by kernel_rfl) (by kernel_rfl) (by kernel_rfl) (fun _ _ _ h => h) (fun o ho W hSw => ?y4) hS0 ?_
  case y4 =>
    cases ho
    simp [execOp, go_sem, Act.eval]
  simp only [Act.put, List.setIfInBounds_toArray, List.set_cons_zero, List.set_cons_succ]
  refine hTake (i := 5) (v := .pointer (some ⟨h, 0, none⟩)) (some 21) (by kernel_rfl) (by kernel_rfl) (by kernel_rfl) (by kernel_rfl) (by kernel_rfl) (fun _ _ _ h => h) (fun o ho W hSw => ?y5) hS0 ?_
  case y5 =>
    cases ho
    simp [execOp, go_sem, Act.eval]
  simp only [Act.put, List.setIfInBounds_toArray, List.set_cons_zero, List.set_cons_succ]
  refine hTake (i := 6) (v := .slice pw n0 cw) (some 22) (by kernel_rfl) (by kernel_rfl) (by kernel_rfl) (by kernel_rfl) (by kernel_rfl) (fun _ _ _ h => h) (fun o ho W hSw => ?y6) hS0 ?_
  case y6 =>
    cases ho
    obtain ⟨t0, t1⟩ := hSw
    simp [execOp, go_sem, Act.eval, t1]
  simp only [Act.put, List.setIfInBounds_toArray, List.set_cons_zero, List.set_cons_succ]
  refine hTake (i := 7) (v := .pointer (some ⟨b, 0, none⟩)) (some 23) (by kernel_rfl) (by kernel_rfl) (by kernel_rfl) (by kernel_rfl) (by kernel_rfl) (fun _ _ _ h => h) (fun o ho W hSw => ?y7) hS0 ?_
  case y7 =>
    cases ho
    simp [execOp, go_sem, Act.eval]
  simp only [Act.put, List.setIfInBounds_toArray, List.set_cons_zero, List.set_cons_succ]
  refine hCallE (i := 8) (f := 119) (args := #[.pointer (some ⟨b, 0, none⟩)]) (some 24) (by kernel_rfl) (by kernel_rfl) (by kernel_rfl) (fun o ho => ?c8) (HFN.out 1) ?k8 (fun ch w' hh => by cases hh.1) (fun w' hh => by cases hh.1)
  case c8 =>
    cases ho
    simp [execOp, go_sem, Act.eval]
  case k8 =>
    rintro u w3 ⟨hu, hb3⟩
    obtain rfl := Ending.returned.inj hu
    have hb3' : Below W1.heap.size W1 w3 := (below_drewN (Below.refl _ _) 1).trans hb3
    clear hu hb3 hS0
    have hS3 : w3.cell? ⟨bx, 0, none⟩ = some (.pointer (some ⟨h, 0, none⟩)) ∧ w3.cell? ⟨h, 0, none⟩ = some (.slice pw n0 cw) := ⟨(hb3'.cell (p := ⟨bx, 0, none⟩) HLB.out.1).trans bc0, (hb3'.cell (p := ⟨h, 0, none⟩) HLB.out.2).trans hc0⟩
    refine ⟨hS3, ?_⟩
    simp only [Act.put, List.setIfInBounds_toArray, List.set_cons_zero, List.set_cons_succ]
    refine hTake (i := 9) (v := .iface 131 (.agg #[.string st, .int .i64 nk])) (some 25) (by kernel_rfl) (by kernel_rfl) (by kernel_rfl) (by kernel_rfl) (by kernel_rfl) (fun _ _ _ h => h) (fun o ho W hSw => ?y9) hS3 ?_
    case y9 =>
      cases ho
      simp [execOp, go_sem, Act.eval]
    simp only [Act.put, List.setIfInBounds_toArray, List.set_cons_zero, List.set_cons_succ]
    have hbA : Below W1.heap.size W1 (w3.alloc (.cells #[.iface 131 (.agg #[.string st, .int .i64 nk])] 70)) := hb3'.alloc hb3'.size _
    refine hStep (i := 10) (v := .slice (some ⟨w3.heap.size, 0, none⟩) 1 1) (w' := w3.alloc (.cells #[.iface 131 (.agg #[.string st, .int .i64 nk])] 70)) (some 26) (by kernel_rfl) (by kernel_rfl) (by kernel_rfl) (fun o ho => ?y10) ⟨(hbA.cell (p := ⟨bx, 0, none⟩) HLB.out.1).trans bc0, (hbA.cell (p := ⟨h, 0, none⟩) HLB.out.2).trans hc0⟩ ?_
    case y10 =>
      cases ho
      simp [execOp, go_sem, Act.eval]
    simp only [Act.put, List.setIfInBounds_toArray, List.set_cons_zero, List.set_cons_succ]
    obtain ⟨W4, eW4⟩ : ∃ W4, W4 = w3.alloc (.cells #[.iface 131 (.agg #[.string st, .int .i64 nk])] 70) := ⟨_, rfl⟩
    have kn : W4.cell? ⟨w3.heap.size, 0, none⟩ = some (.iface 131 (.agg #[.string st, .int .i64 nk])) := by rw [eW4]; unfold World.cell?; rw [heap_alloc_new]; rfl
    have hbA' : Below W1.heap.size W1 W4 := by rw [eW4]; exact hbA
    have HE4 : Hid _ := eW4
    rw [← eW4]
    clear hbA eW4
    have H4 : PSo B0 Bt Z h m mf N lk W0 tr V E pw cw W4 := HPO.out.below hbA'
    have hrow4 : W4.ownsRow (h + 1) 70 1 (.slice pw n0 cw) n0 V := by have := H4.2.1; rw [← HVV.out] at this; exact this
    obtain ⟨g5, cap5, w5, hr5, hown5, hg5, hat5⟩ := run_app_word W4 89 (h + 1) pw n0 cw V w3.heap.size 1 (.iface 131 (.agg #[.string st, .int .i64 nk])) hrow4 kn (one_functor _ _) (by omega) (by have := H4.lt; omega)
    have h5c : w5.heap[h]? = W4.heap[h]? := hg5.block h H4.lt (fun e => by have := (row_type hrow4 e.symm).1; omega)
    have h5b : w5.heap[bx]? = some (.cells #[.pointer (some ⟨h, 0, none⟩), .int .i64 base, .map (some mf)] 113) := by
      have k4 := HBX.out W4 (FrP.of_below hbA')
      refine (hg5.block bx (Array.getElem?_eq_some_iff.1 k4).1 (fun e => ?_)).trans k4
      obtain ⟨_, _, cur, hc⟩ := row_type hrow4 e.symm
      rw [k4] at hc; simp at hc
    have hS5 : w5.cell? ⟨bx, 0, none⟩ = some (.pointer (some ⟨h, 0, none⟩)) ∧ w5.cell? ⟨h, 0, none⟩ = some (.slice pw n0 cw) := ⟨(HBC.out w5 h5b).1, by have := H4.cell.1; rw [← HVV.out] at this; simpa [World.cell?, h5c] using this⟩
    refine hStep (i := 11) (v := .slice (some ⟨g5, 0, none⟩) (n0 + 1) cap5) (w' := w5) (some 27) (by kernel_rfl) (by kernel_rfl) (by kernel_rfl) (fun o ho => ?y11) hS5 ?_
    case y11 =>
      cases ho
      exact exec_app rfl rfl rfl hr5
    simp only [Act.put, List.setIfInBounds_toArray, List.set_cons_zero, List.set_cons_succ]
    refine hTake (i := 12) (v := .pointer (some ⟨h, 0, none⟩)) (some 28) (by kernel_rfl) (by kernel_rfl) (by kernel_rfl) (by kernel_rfl) (by kernel_rfl) (fun _ _ _ h => h) (fun o ho W hSw => ?y12) hS5 ?_
    case y12 =>
      cases ho
      simp [execOp, go_sem, Act.eval]
    simp only [Act.put, List.setIfInBounds_toArray, List.set_cons_zero, List.set_cons_succ]
    refine wpAnyH_done (by kernel_rfl) ?_ _
    have f5 : w5.frozen? ⟨h, 0, none⟩ = false := by obtain ⟨⟨_, _, h0, _⟩, _⟩ := H4; exact frozen_of_row _ _ _ _ _ (h5c.trans h0)
    have HP6 : Hid (PSo B0 Bt Z h m mf N lk W0 tr (V ++ [(.iface 131 (.agg #[.string st, .int .i64 nk]))]) E (some ⟨g5, 0, none⟩) cap5 (w5.setCell ⟨h, 0, none⟩ (.slice (some ⟨g5, 0, none⟩) (n0 + 1) cap5))) := H4.grow (by simp [HVV.out]) hown5 (by rw [← HVV.out]; exact hg5) (by rw [← HVV.out]; exact hat5)
    have HF6 : Hid (FrP h mf W1 (w5.setCell ⟨h, 0, none⟩ (.slice (some ⟨g5, 0, none⟩) (n0 + 1) cap5))) := (FrP.of_below hbA').trans (H4.growF (by rw [← HVV.out]; exact hg5) _)
    refine tail_store (some 29) (by rfl) (by rfl) (by rfl) (v := .pointer (some ⟨h, 0, none⟩)) ?_ (by rfl) (by rfl) (by rfl) (w' := w5.setCell ⟨h, 0, none⟩ (.slice (some ⟨g5, 0, none⟩) (n0 + 1) cap5)) ?_ ?_
    · simp [execOp, go_sem, Act.eval]
    · simp [execOp, go_sem, Act.eval, Act.put, hS5.2, f5]
    simp only [Act.put, List.setIfInBounds_toArray, List.set_cons_zero, List.set_cons_succ]
    clear hS5 hS3 hr5 hown5 hg5 hat5 h5c h5b f5 H4 hrow4 kn hbA' hb3' HE4 HFN hc0 hf0 bc0 bc1 bc2 tc1
    generalize w5.setCell ⟨h, 0, none⟩ (.slice (some ⟨g5, 0, none⟩) (n0 + 1) cap5) = W6 at HP6 HF6 ⊢
    obtain ⟨bc0, bc1, bc2⟩ := HBC.out W6 (HBX.out W6 HF6.out)
    obtain ⟨hc0, hf0⟩ := HP6.out.cell
    rw [List.length_append, ← HVV.out, List.length_singleton] at hc0
    obtain ⟨_, tc1, _⟩ := HTC.out _ _ _ W6 ⟨_, _, HP6.out⟩
    rw [← HNK.out] at tc1
    have HLB6 : Hid (bx < W6.heap.size ∧ h < W6.heap.size ∧ b < W6.heap.size) := ⟨(Array.getElem?_eq_some_iff.1 (HBX.out W6 HF6.out)).1, HP6.out.lt, World.block_lt_of_cell? _ _ tc1⟩
    go_wp2
    refine wp_region_any (by kernel_rfl) ?_
    refine wpAny_tail (p := 14) (S := fun W => W.cell? ⟨bx, 0, none⟩ = some (.pointer (some ⟨h, 0, none⟩)) ∧ W.cell? ⟨h, 0, none⟩ = some (.slice (some ⟨g5, 0, none⟩) (n0 + 1) cap5) ∧ W.cell? ⟨b, 1, none⟩ = some (.slice (some ⟨g, 0, none⟩) nk nk)) (by kernel_rfl) 14 _ _ _ rfl (clo_start _ _ _) (by kernel_rfl) (by kernel_rfl) ?_
    change wpAnyH _ _ _ _ _ _ _ _ W6.drew
    have hS0 : W6.drew.cell? ⟨bx, 0, none⟩ = some (.pointer (some ⟨h, 0, none⟩)) ∧ W6.drew.cell? ⟨h, 0, none⟩ = some (.slice (some ⟨g5, 0, none⟩) (n0 + 1) cap5) ∧ W6.drew.cell? ⟨b, 1, none⟩ = some (.slice (some ⟨g, 0, none⟩) nk nk) := ⟨bc0, hc0, tc1⟩
    refine hTake (i := 0) (v := .pointer (some ⟨bx, 0, none⟩)) (some 30) (by kernel_rfl) (by kernel_rfl) (by kernel_rfl) (by kernel_rfl) (by kernel_rfl) (fun _ _ _ h => h) (fun o ho W hSw => ?y0) hS0 ?_
    case y0 =>
      cases ho
      simp [execOp, go_sem, Act.eval]
    simp only [Act.put, List.setIfInBounds_toArray, List.set_cons_zero, List.set_cons_succ]
    refine hTake (i := 1) (v := .pointer (some ⟨h, 0, none⟩)) (some 31) (by kernel_rfl) (by kernel_rfl) (by kernel_rfl) (by kernel_rfl) (by kernel_rfl) (fun _ _ _ h => h) (fun o ho W hSw => ?y1) hS0 ?_
    case y1 =>
      cases ho
      obtain ⟨t0, t1, t2⟩ := hSw
      simp [execOp, go_sem, Act.eval, t0]
    simp only [Act.put, List.setIfInBounds_toArray, List.set_cons_zero, List.set_cons_succ]
    refine hTake (i := 2) (v := .pointer (some ⟨bx, 0, none⟩)) (some 32) (by kernel_rfl) (by kernel_rfl) (by kernel_rfl) (by kernel_rfl) (by kernel_rfl) (fun _ _ _ h => h) (fun o ho W hSw => ?y2) hS0 ?_
    case y2 =>
      cases ho
      simp [execOp, go_sem, Act.eval]
    simp only [Act.put, List.setIfInBounds_toArray, List.set_cons_zero, List.set_cons_succ]
    refine hTake (i := 3) (v := .pointer (some ⟨h, 0, none⟩)) (some 33) (by kernel_rfl) (by kernel_rfl) (by kernel_rfl) (by kernel_rfl) (by kernel_rfl) (fun _ _ _ h => h) (fun o ho W hSw => ?y3) hS0 ?_
    case y3 =>
      cases ho
      obtain ⟨t0, t1, t2⟩ := hSw
      simp [execOp, go_sem, Act.eval, t0]
    simp only [Act.put, List.setIfInBounds_toArray, List.set_cons_zero, List.set_cons_succ]
    refine hTake (i := 4) (v := .pointer (some ⟨h, 0, none⟩)) (some 34) (by kernel_rfl) (by kernel_rfl) (by kernel_rfl) (by kernel_rfl) (by kernel_rfl) (fun _ _ _ h => h) (fun o ho W hSw => ?y4) hS0 ?_
    case y4 =>
      cases ho
      simp [execOp, go_sem, Act.eval]
    simp only [Act.put, List.setIfInBounds_toArray, List.set_cons_zero, List.set_cons_succ]
    refine hTake (i := 5) (v := .pointer (some ⟨h, 0, none⟩)) (some 35) (by kernel_rfl) (by kernel_rfl) (by kernel_rfl) (by kernel_rfl) (by kernel_rfl) (fun _ _ _ h => h) (fun o ho W hSw => ?y5) hS0 ?_
    case y5 =>
      cases ho
      simp [execOp, go_sem, Act.eval]
    simp only [Act.put, List.setIfInBounds_toArray, List.set_cons_zero, List.set_cons_succ]
    refine hTake (i := 6) (v := .slice (some ⟨g5, 0, none⟩) (n0 + 1) cap5) (some 36) (by kernel_rfl) (by kernel_rfl) (by kernel_rfl) (by kernel_rfl) (by kernel_rfl) (fun _ _ _ h => h) (fun o ho W hSw => ?y6) hS0 ?_
    case y6 =>
      cases ho
      obtain ⟨t0, t1, t2⟩ := hSw
      simp [execOp, go_sem, Act.eval, t1]
    simp only [Act.put, List.setIfInBounds_toArray, List.set_cons_zero, List.set_cons_succ]
    refine hTake (i := 7) (v := .pointer (some ⟨b, 0, none⟩)) (some 37) (by kernel_rfl) (by kernel_rfl) (by kernel_rfl) (by kernel_rfl) (by kernel_rfl) (fun _ _ _ h => h) (fun o ho W hSw => ?y7) hS0 ?_
    case y7 =>
      cases ho
      simp [execOp, go_sem, Act.eval]
    simp only [Act.put, List.setIfInBounds_toArray, List.set_cons_zero, List.set_cons_succ]
    refine hTake (i := 8) (v := .pointer (some ⟨b, 0, none⟩)) (some 38) (by kernel_rfl) (by kernel_rfl) (by kernel_rfl) (by kernel_rfl) (by kernel_rfl) (fun _ _ _ h => h) (fun o ho W hSw => ?y8) hS0 ?_
    case y8 =>
      cases ho
      simp [execOp, go_sem, Act.eval]
    simp only [Act.put, List.setIfInBounds_toArray, List.set_cons_zero, List.set_cons_succ]
    refine hTake (i := 9) (v := .pointer (some ⟨b, 1, none⟩)) (some 39) (by kernel_rfl) (by kernel_rfl) (by kernel_rfl) (by kernel_rfl) (by kernel_rfl) (fun _ _ _ h => h) (fun o ho W hSw => ?y9) hS0 ?_
    case y9 =>
      cases ho
      simp [execOp, go_sem, Act.eval]
    simp only [Act.put, List.setIfInBounds_toArray, List.set_cons_zero, List.set_cons_succ]
    refine hTake (i := 10) (v := .slice (some ⟨g, 0, none⟩) nk nk) (some 40) (by kernel_rfl) (by kernel_rfl) (by kernel_rfl) (by kernel_rfl) (by kernel_rfl) (fun _ _ _ h => h) (fun o ho W hSw => ?y10) hS0 ?_
    case y10 =>
      cases ho
      obtain ⟨t0, t1, t2⟩ := hSw
      simp [execOp, go_sem, Act.eval, t2]
    simp only [Act.put, List.setIfInBounds_toArray, List.set_cons_zero, List.set_cons_succ]
    refine hStep (i := 11) (v := .int .i64 nk) (w' := W6.drew) (some 41) (by kernel_rfl) (by kernel_rfl) (by kernel_rfl) (fun o ho => ?y11b) hS0 ?_
    case y11b =>
      cases ho
      simp [execOp, go_sem, Act.eval]
    simp only [Act.put, List.setIfInBounds_toArray, List.set_cons_zero, List.set_cons_succ]
    have H7 : PSo B0 Bt Z h m mf N lk W0 tr (V ++ [(.iface 131 (.agg #[.string st, .int .i64 nk]))]) E (some ⟨g5, 0, none⟩) cap5 W6.drew := HP6.out.below (Below.refl _ _).drew
    have hrow7 : W6.drew.ownsRow (h + 1) 70 1 (.slice (some ⟨g5, 0, none⟩) (n0 + 1) cap5) (n0 + 1) (V ++ [(.iface 131 (.agg #[.string st, .int .i64 nk]))]) := by have := H7.2.1; rw [List.length_append, ← HVV.out, List.length_singleton] at this; exact this
    obtain ⟨g8, cap8, w8, hr8, hown8, hg8, hat8⟩ := app_zeros W6.drew 89 (h + 1) g5 (n0 + 1) cap5 nk _ (by omega) (by omega) (by have := H7.lt; omega) hrow7
    have h8c : w8.heap[h]? = W6.drew.heap[h]? := hg8.block h H7.lt (fun e => by have := (row_type hrow7 (g := g5) rfl).1; cases e; omega)
    have h8b : w8.heap[bx]? = some (.cells #[.pointer (some ⟨h, 0, none⟩), .int .i64 base, .map (some mf)] 113) := by
      have k4 := HBX.out W6.drew (HF6.out.trans (FrP.of_below (Below.refl _ _).drew))
      refine (hg8.block bx (Array.getElem?_eq_some_iff.1 k4).1 (fun e => ?_)).trans k4
      obtain ⟨_, _, cur, hc⟩ := row_type hrow7 (g := g5) rfl
      cases e
      rw [k4] at hc; simp at hc
    have HP9 : Hid (PSo B0 Bt Z h m mf N lk W0 tr (V ++ [(.iface 131 (.agg #[.string st, .int .i64 nk]))] ++ List.replicate nk .nilIface) E (some ⟨g8, 0, none⟩) cap8 (w8.setCell ⟨h, 0, none⟩ (.slice (some ⟨g8, 0, none⟩) (n0 + 1 + nk) cap8))) := H7.grow (by simp [HVV.out]; omega) hown8 (by rw [List.length_append, ← HVV.out, List.length_singleton]; exact hg8) (by rcases hat8 with e | e; exact .inl (by rw [e]; rfl); exact .inr e)
    have HF9 : Hid (FrP h mf W1 (w8.setCell ⟨h, 0, none⟩ (.slice (some ⟨g8, 0, none⟩) (n0 + 1 + nk) cap8))) := (HF6.out.trans (FrP.of_below (Below.refl _ _).drew)).trans (H7.growF (by rw [List.length_append, ← HVV.out, List.length_singleton]; exact hg8) _)
    have hS8 : w8.cell? ⟨bx, 0, none⟩ = some (.pointer (some ⟨h, 0, none⟩)) ∧ w8.cell? ⟨h, 0, none⟩ = some (.slice (some ⟨g5, 0, none⟩) (n0 + 1) cap5) ∧ w8.cell? ⟨b, 1, none⟩ = some (.slice (some ⟨g, 0, none⟩) nk nk) := ⟨(HBC.out w8 h8b).1, by rw [World.cell?_of_block (a := ⟨h, 0, none⟩) h8c]; exact hc0, ?_⟩
    rotate_left
    · have hbt := HTC.out _ _ _ _ ⟨_, _, HP9.out⟩
      rw [← HNK.out] at hbt
      have := hbt.2.1
      rw [World.cell?_setCell_other _ _ _ _ (by simp)] at this
      exact this
    refine hStep (i := 12) (v := .slice (some ⟨g8, 0, none⟩) (n0 + 1 + nk) cap8) (w' := w8) (some 42) (by kernel_rfl) (by kernel_rfl) (by kernel_rfl) (fun o ho => ?y12) hS8 ?_
    case y12 =>
      cases ho
      exact exec_app rfl rfl rfl hr8
    simp only [Act.put, List.setIfInBounds_toArray, List.set_cons_zero, List.set_cons_succ]
    refine hTake (i := 13) (v := .pointer (some ⟨h, 0, none⟩)) (some 43) (by kernel_rfl) (by kernel_rfl) (by kernel_rfl) (by kernel_rfl) (by kernel_rfl) (fun _ _ _ h => h) (fun o ho W hSw => ?y13) hS8 ?_
    case y13 =>
      cases ho
      simp [execOp, go_sem, Act.eval]
    simp only [Act.put, List.setIfInBounds_toArray, List.set_cons_zero, List.set_cons_succ]
    refine wpAnyH_done (by kernel_rfl) ?_ _
    have f8 : w8.frozen? ⟨h, 0, none⟩ = false := by obtain ⟨⟨_, _, h0, _⟩, _⟩ := H7; exact frozen_of_row _ _ _ _ _ (h8c.trans h0)
    refine tail_store (some 44) (by rfl) (by rfl) (by rfl) (v := .pointer (some ⟨h, 0, none⟩)) ?_ (by rfl) (by rfl) (by rfl) (w' := w8.setCell ⟨h, 0, none⟩ (.slice (some ⟨g8, 0, none⟩) (n0 + 1 + nk) cap8)) ?_ ?_
    · simp [execOp, go_sem, Act.eval]
    · simp [execOp, go_sem, Act.eval, Act.put, hS8.2.1, f8]
    simp only [Act.put, List.setIfInBounds_toArray, List.set_cons_zero, List.set_cons_succ]
    clear hS8 hr8 hown8 hg8 hat8 h8c h8b f8 H7 hrow7 hc0 hf0 bc0 bc1 bc2 tc1 hS0 HLB6 HP6 HF6
    generalize w8.setCell ⟨h, 0, none⟩ (.slice (some ⟨g8, 0, none⟩) (n0 + 1 + nk) cap8) = W9 at HP9 HF9 ⊢
    have HP10 : Hid (PS B0 Bt Z h m mf (N + (Fo.nil).cells.length) lk W0 tr (midV V (.iface 131 (.agg #[.string st, .int .i64 nk])) nk 0 (putL base .nil (n0 + 1) (n0 + 1 + nk) E)) (putL base .nil (n0 + 1) (n0 + 1 + nk) E).2.2 W9) := by
      refine ⟨some ⟨g8, 0, none⟩, cap8, ?_⟩
      have := HP9.out
      simpa [midV, putL, Fo.cells] using this
    obtain ⟨_, tc1, _⟩ := HTC.out _ _ _ W9 ⟨_, _, HP9.out⟩
    rw [← HNK.out] at tc1
    clear HP9
    have HVB : Hid (n0 + 2 * (1 + k.cells.length) ≤ 1000000) := hV
    have hn0b : n0 ≤ 1000000 := by omega
    clear hV HLB HPO enk
    go_wp2_with fail
    go_loopw [50] (fun i wr => ∃ (D R : Fo) (j : Nat), j ≤ nk ∧ i = .int .i64 j ∧ Hid (k = D.cat R ∧ D.count = j) ∧ Hid (PS B0 Bt Z h m mf (N + D.cells.length) lk W0 tr (midV V (.iface 131 (.agg #[.string st, .int .i64 nk])) nk j (putL base D (n0 + 1) (n0 + 1 + nk) E)) (putL base D (n0 + 1) (n0 + 1 + nk) E).2.2 wr) ∧ Hid (FrP h mf W1 wr)) (fun i _ => nk - (intOf i).toNat)
    case atStart => exact ⟨.nil, k, 0, Nat.zero_le _, rfl, ⟨rfl, rfl⟩, HP10, HF9⟩
    case round =>
      obtain ⟨D, R, j, hj, rfl, HD, HP, HF⟩ := hrel
      by_cases hlt : j < nk
      · obtain ⟨c', k', r', rfl⟩ : ∃ c' k' r', R = .node c' k' r' := by
          cases R with
          | nil => have h1 := HD.out; rw [Fo.cat_nil] at h1; have h2 := HNK.out; rw [h1.1] at h2; omega
          | node c' k' r' => exact ⟨c', k', r', rfl⟩
        have hl2 : D.cells.length + (k'.cells.length + r'.cells.length + 1) = k.cells.length := by
          rw [HD.out.1, Fo.cells_cat]; simp [Fo.cells]
        have hcn : k.count = D.count + (1 + r'.count) := by rw [HD.out.1, Fo.count_cat]; simp only [Fo.count]; omega
        have hfs : ∃ v1 v vr, vs = v1 ++ v :: vr ∧ v1.length = j ∧ FoIn W0 Bt (.node c' k' .nil) [v] := by
          have hh := HFO.out
          rw [HD.out.1] at hh
          obtain ⟨v1, v2, e1, f1, f2⟩ := FoIn.split D _ vs hh
          obtain ⟨v, vr, e2, hn, hr⟩ := f2
          exact ⟨v1, v, vr, by rw [e1, e2], by rw [FoIn.count _ _ f1]; exact HD.out.2, v, [], rfl, hn, rfl⟩
        obtain ⟨v1, v, vr, evs, hv1, hfo1⟩ := hfs
        have hok2 := (Fo.ok_cat D (.node c' k' r')).1 (HD.out.1 ▸ HKO.out)
        have hcell : wr.cell? ⟨g, j, none⟩ = some v := by
          have h1 := (HTC.out _ _ _ wr HP.out).2.2 j (by rw [← HNK.out]; exact hlt)
          rw [h1, evs]
          simp [List.getD, ← hv1]
        have hblk := putL_blk base D (n0 + 1) (n0 + 1 + nk) E
        have hlenR := putL_len base D (n0 + 1) (n0 + 1 + nk) E
        have hmid := midV_len V (.iface 131 (.agg #[.string st, .int .i64 nk])) nk j (putL base D (n0 + 1) (n0 + 1 + nk) E) (hlenR.trans HD.out.2) hj
        have hrc := Fo.count_le r'
        obtain ⟨tt, ett⟩ : ∃ tt : Nat, tt = n0 + 1 + j := ⟨_, rfl⟩
        have hwr : IntKind.i64.wrap ((n0 : Int) + 1 + (j : Int)) = (tt : Int) := by rw [show (n0 : Int) + 1 + (j : Int) = tt by omega, IntKind.wrap_i64]; omega
        have hvb := HVB.out
        have hnb := HBD.out.2.1
        have hdc := HD.out.2
        have hnk := HNK.out
        rw [← HVV.out] at hmid
        have hcall := HIH.out c' k' v tt _ _ _ wr (by omega) ⟨hok2.2.1, hok2.2.2.1, hok2.2.2.2.1, hok2.2.2.2.2.1, hok2.2.2.2.2.2.1, trivial⟩ hfo1 (by omega) (by rw [hmid]; omega) (by omega) HP.out
        rw [hmid] at hcall
        have HSN : Hid (putL base (D.cat (.node c' k' .nil)) (n0 + 1) (n0 + 1 + nk) E = ((putL base D (n0 + 1) (n0 + 1 + nk) E).1 ++ [(put1 base c' k' tt (n0 + 1 + nk + (putL base D (n0 + 1) (n0 + 1 + nk) E).2.1.length) (putL base D (n0 + 1) (n0 + 1 + nk) E).2.2).1], (putL base D (n0 + 1) (n0 + 1 + nk) E).2.1 ++ (put1 base c' k' tt (n0 + 1 + nk + (putL base D (n0 + 1) (n0 + 1 + nk) E).2.1.length) (putL base D (n0 + 1) (n0 + 1 + nk) E).2.2).2.1, (put1 base c' k' tt (n0 + 1 + nk + (putL base D (n0 + 1) (n0 + 1 + nk) E).2.1.length) (putL base D (n0 + 1) (n0 + 1 + nk) E).2.2).2.2)) := by
          show _ = _
          rw [putL_snoc, hdc, ← ett]
        have HLR : Hid ((putL base D (n0 + 1) (n0 + 1 + nk) E).1.length = j) := hlenR.trans hdc
        have HNX : Hid (k = (D.cat (.node c' k' .nil)).cat r' ∧ (D.cat (.node c' k' .nil)).count = j + 1) := ⟨by rw [Fo.cat_assoc]; exact HD.out.1, by rw [Fo.count_cat, hdc]; simp [Fo.count]⟩
        have HDL : Hid ((D.cat (.node c' k' .nil)).cells.length = D.cells.length + (1 + k'.cells.length)) := by show _ = _; rw [Fo.cells_cat]; simp [Fo.cells]; omega
        have hml : tt < n0 + 1 + nk + (putL base D (n0 + 1) (n0 + 1 + nk) E).2.1.length := by omega
        generalize putL base D (n0 + 1) (n0 + 1 + nk) E = RD at HP hcall HSN HLR hml hmid
        have HTT : Hid (tt = n0 + (1 + j)) := by show _ = _; omega
        have htb : tt ≤ 1000000 := by omega
        generalize hA : put1 base c' k' tt (n0 + 1 + nk + RD.2.1.length) RD.2.2 = A at hcall HSN
        have HVL : Hid ((midV V (.iface 131 (.agg #[.string st, .int .i64 nk])) nk j RD ++ A.2.1.map wv).length = n0 + 1 + nk + RD.2.1.length + A.2.1.length) := by show _ = _; rw [List.length_append, List.length_map, hmid]
        obtain ⟨bc0, bc1, bc2⟩ := HBC.out wr (HBX.out wr HF.out)
        obtain ⟨vt, vx, rfl⟩ : ∃ vt vx, v = .iface vt vx := by obtain ⟨v', vr', e', hn', _⟩ := hfo1; obtain ⟨vt, vx, e⟩ := hn'.iface; cases e'; exact ⟨vt, vx, e⟩
        obtain ⟨ty, y, hvv⟩ := wv_iface A.1
        rw [hvv] at hcall
        have HVVV : Hid (wv A.1 = .iface ty y) := hvv
        have HTL : Hid (tt < n0 + 1 + nk + RD.2.1.length) := hml
        clear hvv hok2 hl2 hcn hblk hlenR hmid hrc hvb hnb hdc hnk hfo1 evs hv1 hA hml ett
        go_wp2_with fail
        refine Calls.mono hcall ?_
        rintro e w3 ⟨rfl, hps3, hf3⟩
        have hF3 : FrP h mf W1 w3 := HF.out.trans hf3
        obtain ⟨bd0, _, _⟩ := HBC.out w3 (HBX.out w3 hF3)
        obtain ⟨pw3, cw3, hps3⟩ := hps3
        obtain ⟨g3, rfl⟩ : ∃ g3, pw3 = some ⟨g3, 0, none⟩ := by
          rcases hps3.2.1.2 with ⟨h0, _⟩ | ⟨g', cap, cur, hv, _⟩
          · have hz := HVL.out; simp only [Value.slice.injEq] at h0; omega
          · cases hv; exact ⟨g', rfl⟩
        obtain ⟨hd0, _⟩ := hps3.cell
        rw [HVL.out] at hd0
        have hcell3 := hps3.2.1.cellAt tt (by rw [HVL.out]; have := HTL.out; omega)
        have hfr3 := hps3.2.1.frozenAt tt
        rw [List.getElem?_eq_getElem (by rw [HVL.out]; have := HTL.out; omega)] at hcell3
        generalize (midV V (.iface 131 (.agg #[.string st, .int .i64 nk])) nk j RD ++ A.2.1.map wv)[tt]'(by rw [HVL.out]; have := HTL.out; omega) = old at hcell3
        have HPN : Hid (PS B0 Bt Z h m mf (N + (D.cat (.node c' k' .nil)).cells.length) lk W0 tr (midV V (.iface 131 (.agg #[.string st, .int .i64 nk])) nk (j + 1) (putL base (D.cat (.node c' k' .nil)) (n0 + 1) (n0 + 1 + nk) E)) (putL base (D.cat (.node c' k' .nil)) (n0 + 1) (n0 + 1 + nk) E).2.2 (w3.setCell ⟨g3, tt, none⟩ (.iface ty y))) := by
          have hst := hps3.set tt (.iface ty y)
          rw [← HVVV.out, HTT.out, HVV.out, midV_step V (.iface 131 (.agg #[.string st, .int .i64 nk])) .nilIface nk j RD A HLR.out hlt, ← HVV.out, ← HTT.out, HVVV.out] at hst
          refine ⟨some ⟨g3, 0, none⟩, cw3, ?_⟩
          show PSo _ _ _ _ _ _ _ _ _ _ _ _ _ _ _
          rw [HSN.out, HDL.out, ← Nat.add_assoc]
          exact hst
        have HFN2 : Hid (FrP h mf W1 (w3.setCell ⟨g3, tt, none⟩ (.iface ty y))) := hF3.trans (hps3.setF tt _)
        have htl := HTL.out
        obtain ⟨LL, eLL⟩ : ∃ LL, LL = n0 + 1 + nk + RD.2.1.length + A.2.1.length := ⟨_, rfl⟩
        rw [← eLL] at hd0
        have htl2 : tt < LL := by omega
        clear hps3 hf3 hF3 hcall HVL HTL htl eLL HSN HLR HDL HTT HVVV HD HP HF hcell bc0 bc1 bc2
        go_wp2
        go_roundw
        case rel => exact ⟨D.cat (.node c' k' .nil), r', j + 1, by omega, by go_num, HNX, HPN, HFN2⟩
        case measure => simp [intOf]; omega
      · obtain rfl : j = nk := by omega
        obtain rfl : R = .nil := by
          cases R with
          | nil => rfl
          | node a b d => have h1 := HD.out; have h2 := HNK.out; rw [h1.1, Fo.count_cat] at h2; simp only [Fo.count] at h2; omega
        obtain rfl : k = D := by have := HD.out.1; rwa [Fo.cat_nil] at this
        have HQ : Hid (RR (N + k.cells.length) (V ++ ((3, (k.count : Int), nm) :: ((putL base k (V.length + 1) (V.length + 1 + k.count) E).1 ++ (putL base k (V.length + 1) (V.length + 1 + k.count) E).2.1)).map wv) (putL base k (V.length + 1) (V.length + 1 + k.count) E).2.2 W (.returned (.int .i64 n0)) wr) := by
          show RR _ _ _ _ _ _
          rw [← HRR.out, ← HVV.out]
          refine ⟨rfl, ?_, HW1.out.trans HF.out⟩
          have := HP.out
          rw [HNK.out] at this
          have e : midV V (.iface 131 (.agg #[.string st, .int .i64 (k.count : Int)])) k.count k.count (putL base k (n0 + 1) (n0 + 1 + k.count) E) = V ++ ((3, (k.count : Int), nm) :: ((putL base k (n0 + 1) (n0 + 1 + k.count) E).1 ++ (putL base k (n0 + 1) (n0 + 1 + k.count) E).2.1)).map wv := by
            simp [midV, wv, HST.out]
          rw [← e]; exact this
        clear HP HD HF
        go_wp2
        exact HQ.out

end Go.Proofs.Ytedkkghekboahaa

namespace Go.Proofs.Ytedkkghekboahaa
open Go Go.RowKit Go.Maps
set_option linter.unusedVariables false

theorem WordOk.mono {B0 Bt Z h m mf base : Nat} {lk : Int} {W0 : World} {tr : List Int} {n n' : Nat} (H : WordOk B0 Bt Z h m mf base lk W0 tr n') (hn : n ≤ n') : WordOk B0 Bt Z h m mf base lk W0 tr n :=
  fun c k v pl N V E W hk => H c k v pl N V E W (by omega)
theorem PSo.noteE {B0 Bt Z h m mf N : Nat} {lk : Int} {W0 : World} {tr : List Int} {V : List Value} {E : PSt} {W : World} (H : PS B0 Bt Z h m mf N lk W0 tr V E W) : VMap W mf N (E.map fun e => (e.1, .int .i64 e.2)) := by
  obtain ⟨pw, cw, H⟩ := H
  exact H.2.2.1
theorem put1_old (base c1 : Int) (t : List Int) (k : Fo) (p L : Nat) (E : PSt) (h : c1 < base) : put1 base (0, c1, t) k p L E = ((0, c1, []), [], E) := by
  simp [put1, putH, h]
theorem put1_new (base c1 : Int) (t : List Int) (k : Fo) (p L : Nat) (E : PSt) (h : ¬ c1 < base) : put1 base (0, c1, t) k p L E = ((0, keptA E c1 p, []), [], keptE E c1 p) := by
  simp only [put1, putH, if_true, if_neg h, keptA, keptE]
  cases look E c1 <;> rfl

set_option maxHeartbeats 4000000 in
set_option maxRecDepth 100000 in
theorem word_var (B0 Bt Z h m mf base : Nat) (lk : Int) (W0 : World) (tr : List Int) (x : Int) (t : List Int) (k : Fo) (pl N : Nat) (V : List Value) (E : PSt) (W : World) (hx0 : 0 ≤ x) (hx1 : x ≤ 1000000) (hN : N + 1 ≤ 1000000) (hpl : pl ≤ 1000000) (H : PS B0 Bt Z h m mf N lk W0 tr V E W) :
    Calls Try.prog 100 #[.agg #[.pointer (some ⟨h, 0, none⟩), .int .i64 base, .map (some mf)], .iface 120 (.int .i64 x), .int .i64 pl] W (PutOut B0 Bt Z h m mf lk W0 tr (wv (put1 base (0, x, t) k pl V.length E).1) (N + 1) (V ++ (put1 base (0, x, t) k pl V.length E).2.1.map wv) (put1 base (0, x, t) k pl V.length E).2.2 W) := by
  obtain ⟨W1, eW1⟩ : ∃ W1, W1 = W.alloc (.cells #[.pointer (some ⟨h, 0, none⟩), .int .i64 base, .map (some mf)] 113) := ⟨_, rfl⟩
  have hb1 : Below W.heap.size W W1 := by rw [eW1]; exact (Below.refl _ _).alloc (Nat.le_refl _) _
  have kb : W1.heap[W.heap.size]? = some (.cells #[.pointer (some ⟨h, 0, none⟩), .int .i64 base, .map (some mf)] 113) := by rw [eW1]; exact heap_alloc_new _ _
  have HP1 : Hid (PS B0 Bt Z h m mf N lk W0 tr V E W1) := H.below hb1
  have HF1 : Hid (FrP h mf W W1) := FrP.of_below hb1
  have t0 : ∀ W, (Instr.typeAssert (.iface 120 (.int .i64 x)) 80 120 true).run Try.prog W = .ok (.tuple #[.int .i64 x, .bool true]) W := fun W => by kernel_rfl
  have hc1 : W1.cell? ⟨W.heap.size, 1, none⟩ = some (.int .i64 base) := by unfold World.cell?; rw [kb]; rfl
  have hc2 : W1.cell? ⟨W.heap.size, 2, none⟩ = some (.map (some mf)) := by unfold World.cell?; rw [kb]; rfl
  rw [eW1] at hc1 hc2
  by_cases hb : x < (base : Int)
  · rw [put1_old _ _ _ _ _ _ _ hb]
    have HQ : Hid (PutOut B0 Bt Z h m mf lk W0 tr (.iface 100 (.int .i64 x)) (N + 1) (V ++ ([] : List Cel).map wv) E W (.returned (.iface 100 (.int .i64 x))) W1) := by
      refine ⟨rfl, ?_, HF1.out⟩
      obtain ⟨pw, cw, q⟩ := HP1.out
      exact ⟨pw, cw, by simpa using q.more (Nat.le_succ _)⟩
    have hd : decide (x < (base : Int)) = true := decide_eq_true hb
    have hwv : wv (0, x, []) = .iface 100 (.int .i64 x) := rfl
    show Calls _ _ _ _ (PutOut B0 Bt Z h m mf lk W0 tr (wv (0, x, [])) (N + 1) (V ++ ([] : List Cel).map wv) E W)
    rw [hwv]
    rw [eW1] at HQ
    generalize PutOut B0 Bt Z h m mf lk W0 tr (.iface 100 (.int .i64 x)) (N + 1) (V ++ ([] : List Cel).map wv) E W = RR at HQ ⊢
    clear HP1 HF1 kb hb1 eW1 H hb hwv
    go_enter Try.func100, Try.ntmps100
    go_wp2
    first | exact HQ.out | (go_ret; exact HQ.out)
  · rw [put1_new _ _ _ _ _ _ _ hb]
    have HK : Hid _ := keepR_any mf N E x pl W1 hx0 hx1 (by omega) (PSo.noteE HP1.out)
    have hd : decide (x < (base : Int)) = false := decide_eq_false hb
    obtain ⟨ka, eka⟩ : ∃ ka, ka = keptA E x pl := ⟨_, rfl⟩
    have hwv : wv (0, keptA E x pl, []) = .iface 100 (.int .i64 ka) := by rw [eka]; rfl
    have HQ : Hid (∀ w', VMap w' mf (N + 1) ((keptE E x pl).map fun e => (e.1, .int .i64 e.2)) → W1.grownBy w' (some mf) → PutOut B0 Bt Z h m mf lk W0 tr (.iface 100 (.int .i64 ka)) (N + 1) (V ++ ([] : List Cel).map wv) (keptE E x pl) W (.returned (.iface 100 (.int .i64 ka))) w') := fun w' hm hg => by
      refine ⟨rfl, ?_, HF1.out.trans (noteF hg)⟩
      obtain ⟨pw, cw, q⟩ := HP1.out
      exact ⟨pw, cw, by simpa using q.note hm hg⟩
    show Calls _ _ _ _ (PutOut B0 Bt Z h m mf lk W0 tr (wv (0, keptA E x pl, [])) (N + 1) (V ++ ([] : List Cel).map wv) (keptE E x pl) W)
    rw [hwv]
    rw [← eka] at HK
    rw [eW1] at HK HQ
    generalize PutOut B0 Bt Z h m mf lk W0 tr (.iface 100 (.int .i64 ka)) (N + 1) (V ++ ([] : List Cel).map wv) (keptE E x pl) W = RR at HQ ⊢
    clear HP1 HF1 kb hb1 eW1 H hb hwv eka
    go_enter Try.func100, Try.ntmps100
    go_wp2_with fail
    refine Calls.mono HK.out ?_
    rintro e w' ⟨rfl, hm, hg⟩
    have HQ2 : Hid _ := HQ.out w' hm hg
    clear hm hg HQ HK
    go_wp2
    first | exact HQ2.out | (go_ret; exact HQ2.out)

set_option maxHeartbeats 4000000 in
set_option maxRecDepth 100000 in
theorem word_any (B0 Bt Z h m mf base : Nat) (lk : Int) (W0 : World) (tr : List Int) (hZ : Z = W0.heap.size) : ∀ n, WordOk B0 Bt Z h m mf base lk W0 tr n
  | 0 => fun c k v pl N V E W hk => absurd hk (Nat.not_lt_zero _)
  | n + 1 => fun c k v pl N V E W hk hok hfo hpl hV hN H => by
    have IH := word_any B0 Bt Z h m mf base lk W0 tr hZ n
    obtain ⟨v', vr, e, hn, _⟩ := hfo
    cases e
    obtain ⟨o1, o2, o3, o4, o5, _⟩ := hok
    obtain ⟨c0, c1, t⟩ := c
    rcases hn with ⟨h0, hv⟩ | ⟨h0, hv⟩ | ⟨h0, hv⟩ | ⟨h0, b, g, vs, hv, q1, q2, q3, q4, q5, q6, q7⟩
    · simp only at h0 hv
      subst h0 hv
      have hk0 : k = .nil := o4 (by simp)
      subst hk0
      simp only [cellB] at o1
      exact word_var B0 Bt Z h m mf base lk W0 tr c1 t .nil pl N V E W (by revert o1; simp; omega) (by revert o1; simp; omega) (by simpa [Fo.cells] using hN) hpl H
    · simp only at h0 hv
      subst h0 hv
      have hk0 : k = .nil := o4 (by simp)
      subst hk0
      have hp : put1 base (1, c1, t) .nil pl V.length E = ((1, c1, []), [], E) := rfl
      rw [hp]
      have t0 : ∀ W, (Instr.typeAssert (.iface 121 (.int .i64 c1)) 80 120 true).run Try.prog W = .ok (.tuple #[.int .i64 0, .bool false]) W := fun W => by kernel_rfl
      have t1 : ∀ W, (Instr.typeAssert (.iface 121 (.int .i64 c1)) 80 121 true).run Try.prog W = .ok (.tuple #[.int .i64 c1, .bool true]) W := fun W => by kernel_rfl
      have HQ : Hid (PutOut B0 Bt Z h m mf lk W0 tr (.iface 121 (.int .i64 c1)) (N + (1 + Fo.nil.cells.length)) (V ++ ([] : List Cel).map wv) E W (.returned (.iface 121 (.int .i64 c1))) (W.alloc (.cells #[.pointer (some ⟨h, 0, none⟩), .int .i64 base, .map (some mf)] 113))) := by
        have hb1 : Below W.heap.size W (W.alloc (.cells #[.pointer (some ⟨h, 0, none⟩), .int .i64 base, .map (some mf)] 113)) := (Below.refl _ _).alloc (Nat.le_refl _) _
        refine ⟨rfl, ?_, FrP.of_below hb1⟩
        obtain ⟨pw, cw, q⟩ := H.below hb1
        exact ⟨pw, cw, by simpa [Fo.cells] using q.more (Nat.le_succ _)⟩
      show Calls _ _ _ _ (PutOut B0 Bt Z h m mf lk W0 tr (wv (1, c1, [])) (N + (1 + Fo.nil.cells.length)) (V ++ ([] : List Cel).map wv) E W)
      have hwv : wv (1, c1, []) = .iface 121 (.int .i64 c1) := rfl
      rw [hwv]
      generalize PutOut B0 Bt Z h m mf lk W0 tr (.iface 121 (.int .i64 c1)) (N + (1 + Fo.nil.cells.length)) (V ++ ([] : List Cel).map wv) E W = RR at HQ ⊢
      clear H IH hV hN hk hp o1 o2 o3 o4 o5 hwv
      go_enter Try.func100, Try.ntmps100
      go_wp2
      first | exact HQ.out | (go_ret; exact HQ.out)
    · simp only at h0 hv
      subst h0 hv
      have hk0 : k = .nil := o4 (by simp)
      subst hk0
      have hp : put1 base (2, c1, t) .nil pl V.length E = ((2, 0, t), [], E) := rfl
      rw [hp]
      obtain ⟨st, est⟩ : ∃ st, st = strOfNums t := ⟨_, rfl⟩
      have hwv : wv (2, 0, t) = .iface 122 (.string st) := by rw [est]; rfl
      rw [← est]
      have t0 : ∀ W, (Instr.typeAssert (.iface 122 (.string st)) 80 120 true).run Try.prog W = .ok (.tuple #[.int .i64 0, .bool false]) W := fun W => by kernel_rfl
      have t1 : ∀ W, (Instr.typeAssert (.iface 122 (.string st)) 80 121 true).run Try.prog W = .ok (.tuple #[.int .i64 0, .bool false]) W := fun W => by kernel_rfl
      have t2 : ∀ W, (Instr.typeAssert (.iface 122 (.string st)) 80 122 true).run Try.prog W = .ok (.tuple #[.string st, .bool true]) W := fun W => by kernel_rfl
      have HQ : Hid (PutOut B0 Bt Z h m mf lk W0 tr (.iface 122 (.string st)) (N + (1 + Fo.nil.cells.length)) (V ++ ([] : List Cel).map wv) E W (.returned (.iface 122 (.string st))) (W.alloc (.cells #[.pointer (some ⟨h, 0, none⟩), .int .i64 base, .map (some mf)] 113))) := by
        have hb1 : Below W.heap.size W (W.alloc (.cells #[.pointer (some ⟨h, 0, none⟩), .int .i64 base, .map (some mf)] 113)) := (Below.refl _ _).alloc (Nat.le_refl _) _
        refine ⟨rfl, ?_, FrP.of_below hb1⟩
        obtain ⟨pw, cw, q⟩ := H.below hb1
        exact ⟨pw, cw, by simpa [Fo.cells] using q.more (Nat.le_succ _)⟩
      show Calls _ _ _ _ (PutOut B0 Bt Z h m mf lk W0 tr (wv (2, 0, t)) (N + (1 + Fo.nil.cells.length)) (V ++ ([] : List Cel).map wv) E W)
      rw [hwv]
      generalize PutOut B0 Bt Z h m mf lk W0 tr (.iface 122 (.string st)) (N + (1 + Fo.nil.cells.length)) (V ++ ([] : List Cel).map wv) E W = RR at HQ ⊢
      clear H IH hV hN hk hp o1 o2 o3 o4 o5 hwv est
      go_enter Try.func100, Try.ntmps100
      go_wp2
      first | exact HQ.out | (go_ret; exact HQ.out)
    · simp only at h0 hv q3 q7
      subst h0 hv
      have hcnt : (k.count : Int) = c1 ∧ 1 ≤ k.count := by
        have h3 := o3 rfl
        simp only [cellB] at o1
        simp only at h3
        revert o1; simp; omega
      have hb1 : Below W.heap.size W (W.alloc (.cells #[.pointer (some ⟨h, 0, none⟩), .int .i64 base, .map (some mf)] 113)) := (Below.refl _ _).alloc (Nat.le_refl _) _
      have HS : Hid _ := struct_any B0 Bt Z h m mf base lk W0 tr hZ k t b g vs o5 q1 q2 q5 q3 q4 q6 q7 hcnt.2 (IH.mono (by omega)) V E N (W.alloc (.cells #[.pointer (some ⟨h, 0, none⟩), .int .i64 base, .map (some mf)] 113)) (by omega) (by omega) (H.below hb1)
      rw [hcnt.1] at HS
      have hp : put1 base (3, c1, t) k pl V.length E = ((4, (V.length : Int), []), (3, c1, t) :: ((putL base k (V.length + 1) (V.length + 1 + k.count) E).1 ++ (putL base k (V.length + 1) (V.length + 1 + k.count) E).2.1), (putL base k (V.length + 1) (V.length + 1 + k.count) E).2.2) := rfl
      rw [hp]
      have t0 : ∀ W, (Instr.typeAssert (.iface 158 (.pointer (some ⟨b, 0, none⟩))) 80 120 true).run Try.prog W = .ok (.tuple #[.int .i64 0, .bool false]) W := fun W => by kernel_rfl
      have t1 : ∀ W, (Instr.typeAssert (.iface 158 (.pointer (some ⟨b, 0, none⟩))) 80 121 true).run Try.prog W = .ok (.tuple #[.int .i64 0, .bool false]) W := fun W => by kernel_rfl
      have t2 : ∀ W, (Instr.typeAssert (.iface 158 (.pointer (some ⟨b, 0, none⟩))) 80 122 true).run Try.prog W = .ok (.tuple #[.string ⟨#[]⟩, .bool false]) W := fun W => by kernel_rfl
      have t3 : ∀ W, (Instr.typeAssert (.iface 158 (.pointer (some ⟨b, 0, none⟩))) 80 158 true).run Try.prog W = .ok (.tuple #[.pointer (some ⟨b, 0, none⟩), .bool true]) W := fun W => by kernel_rfl
      obtain ⟨n0, en0⟩ : ∃ n0, n0 = V.length := ⟨_, rfl⟩
      have hwv : wv (4, (V.length : Int), []) = .iface 123 (.int .i64 n0) := by rw [en0]; rfl
      show Calls _ _ _ _ (PutOut B0 Bt Z h m mf lk W0 tr (wv (4, (V.length : Int), [])) (N + (1 + k.cells.length)) (V ++ ((3, c1, t) :: ((putL base k (V.length + 1) (V.length + 1 + k.count) E).1 ++ (putL base k (V.length + 1) (V.length + 1 + k.count) E).2.1)).map wv) (putL base k (V.length + 1) (V.length + 1 + k.count) E).2.2 W)
      rw [hwv]
      generalize (putL base k (V.length + 1) (V.length + 1 + k.count) E).2.2 = E' at HS ⊢
      generalize V ++ ((3, c1, t) :: ((putL base k (V.length + 1) (V.length + 1 + k.count) E).1 ++ (putL base k (V.length + 1) (V.length + 1 + k.count) E).2.1)).map wv = V' at HS ⊢
      rw [← en0] at HS
      have HQ : Hid (∀ w', PS B0 Bt Z h m mf (N + k.cells.length) lk W0 tr V' E' w' → FrP h mf (W.alloc (.cells #[.pointer (some ⟨h, 0, none⟩), .int .i64 base, .map (some mf)] 113)) w' → PutOut B0 Bt Z h m mf lk W0 tr (.iface 123 (.int .i64 n0)) (N + (1 + k.cells.length)) V' E' W (.returned (.iface 123 (.int .i64 n0))) w') := fun w' hp hf => by
        refine ⟨rfl, ?_, (FrP.of_below hb1).trans hf⟩
        obtain ⟨pw, cw, q⟩ := hp
        exact ⟨pw, cw, q.more (by omega)⟩
      generalize PutOut B0 Bt Z h m mf lk W0 tr (.iface 123 (.int .i64 n0)) (N + (1 + k.cells.length)) V' E' W = RR at HQ ⊢
      have kb := heap_alloc_new W (.cells #[.pointer (some ⟨h, 0, none⟩), .int .i64 base, .map (some mf)] 113)
      have hc0 : (W.alloc (.cells #[.pointer (some ⟨h, 0, none⟩), .int .i64 base, .map (some mf)] 113)).cell? ⟨W.heap.size, 0, none⟩ = some (.pointer (some ⟨h, 0, none⟩)) := by unfold World.cell?; rw [kb]; rfl
      have hc1 : (W.alloc (.cells #[.pointer (some ⟨h, 0, none⟩), .int .i64 base, .map (some mf)] 113)).cell? ⟨W.heap.size, 1, none⟩ = some (.int .i64 base) := by unfold World.cell?; rw [kb]; rfl
      have hc2 : (W.alloc (.cells #[.pointer (some ⟨h, 0, none⟩), .int .i64 base, .map (some mf)] 113)).cell? ⟨W.heap.size, 2, none⟩ = some (.map (some mf)) := by unfold World.cell?; rw [kb]; rfl
      clear H IH hV hN hk hp o1 o2 o3 o4 o5 hwv en0 q1 q2 q3 q4 q5 q6 q7 hcnt hb1 kb
      go_enter Try.func100, Try.ntmps100
      go_wp2_with fail
      refine Calls.mono HS.out ?_
      rintro e w' ⟨rfl, hp, hf⟩
      have HQ2 : Hid _ := HQ.out w' hp hf
      clear hp hf HQ HS
      go_wp2
      first | exact HQ2.out | (go_ret; exact HQ2.out)

end Go.Proofs.Ytedkkghekboahaa

