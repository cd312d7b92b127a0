/- Texts of SoM, TermG, FunG. Own work of the verifier. -/
import Derived.Test.YtedkkghekboahaaUqas
import Derived.Test.YtedkkghekboahaaUqat
import Derived.Test.YtedkkghekboahaaUqav
import Derived.Test.YtedkkghekboahaaUqaq
namespace Go.Proofs.Ytedkkghekboahaa
open Go Go.RowKit Go.Maps
set_option linter.unusedVariables false

/-- A store as it was answered, to be read. -/
def StoreR (xs : List Cel) (tr : List Int) (w : World) (e : Ending) (w' : World) : Prop :=
  ∃ p q c1 c2, e = .returned (.agg #[.slice p xs.length c1, .slice q tr.length c2]) ∧ OwnC w' w.heap.size p xs.length c1 xs ∧ OwnI w' w.heap.size 3 q tr.length c2 tr ∧ Below w.heap.size w w'
theorem CIn.set {w : World} {p : Option Addr} {cs : List Cel} (h : CIn w p cs) {a : Addr} {u v : Value} (ha : w.cell? a = some u) (h0 : ∀ x, u ≠ .int .i64 x) (h1 : ∀ x, u ≠ .int .u8 x) (hs : 0 < cs.length → ∀ b o, p = some ⟨b, o, none⟩ → b ≠ a.block) : CIn (w.setCell a v) p cs := fun hn => by
  obtain ⟨b, o, rfl, hc⟩ := h hn
  refine ⟨b, o, rfl, fun i hi => ?_⟩
  obtain ⟨q, cap, c0, c1, c2, c3⟩ := hc i hi
  have hne := hs hn b o rfl
  refine ⟨q, cap, ?_, ?_, ?_, fun hm => ?_⟩
  · rw [World.cell?_setCell_other _ _ _ _ (fun e => hne (by rw [e]))]; exact c0
  · rw [World.cell?_setCell_other _ _ _ _ (fun e => hne (by rw [e]))]; exact c1
  · rw [World.cell?_setCell_other _ _ _ _ (fun e => hne (by rw [e]))]; exact c2
  · obtain ⟨g, o', rfl, ht⟩ := c3 hm
    refine ⟨g, o', rfl, fun j hj => ?_⟩
    have hj' := ht j hj
    rw [World.cell?_setCell_other _ _ _ _ (fun e => by rw [e] at ha; rw [ha] at hj'; exact h1 _ (Option.some.inj hj'))]
    exact hj'

theorem exec_appC {a : Act} {o : Oper} {s x : Operand} {w w' : World} {v u r : Value} (ho : o.op = .call { callee := .builtin .append, args := #[s, x], argTypes := #[34, 34] }) (ht : o.type = 34) (hs : a.eval s = v) (hx : a.eval x = u)
    (hr : (Builtin.append_ #[34, 34] 34 #[v, u]).run Try.prog w = .ok r w') : (execOp a.eval o).run Try.prog w = .ok (.value r) w' := by
  unfold execOp
  simp only [ho, ht, resolve, invoke, builtin, Sem.run_bind, Sem.run_pure, Result.andThen_ok, List.map_toArray, List.map_cons, List.map_nil, hs, hx, hr]
/-- append of one cell onto cells of the call's own, as a run. -/
theorem run_app_cell (W0 w : World) (B : Nat) (p : Option Addr) (n c : Nat) (cs : List Cel) (hown : OwnC W0 B p n c cs) (hb0 : Below W0.heap.size W0 w) (hB : B ≤ W0.heap.size) (ad : Addr) (c' : Nat) (kd nn : Int) (tp : Option Addr) (tn tc : Nat) (t : List Int)
    (ht : OwnT w W0.heap.size tp tn tc t) (hnews : ∀ j u, (rcV (kd, nn, tp, tn, tc))[j]? = some u → w.cell? (ad.add j) = some u) (hlen : n + 1 ≤ 1000000000) :
    ∃ g n' cap w', (Builtin.append_ #[34, 34] 34 #[.slice p n c, .slice (some ad) 1 c']).run Try.prog w = .ok (.slice (some ⟨g, 0, none⟩) n' cap) w' ∧ OwnC w' B (some ⟨g, 0, none⟩) n' cap (cs ++ [(kd, nn, t)]) ∧ Below B w w' ∧ n' = n + 1 := by
  obtain ⟨i0, hi, hz0, hz1, hz2⟩ := info_parts infoCell
  obtain ⟨hn, rs, hl, hr, hf, ha⟩ := hown
  obtain ⟨g, cap, w', hrun, hown', hgrow, hat, hlt⟩ := run_append_lies (P := Try.prog) w 34 34 B 31 i0 (.agg #[.int .i64 0, .int .i64 0, .slice none 0 0]) 3 40 Try.underlying34 hi hz0 hz1 hz2 rfl (by decide) (.slice p n c) n (flat rs) (row_below hr hb0) ad 1 c' (rcV (kd, nn, tp, tn, tc)) rfl hnews (rcV_one _) (by decide) (by unfold maxLen; omega) (by omega) (Nat.le_trans hB hb0.size) w.heap.size rfl
  exact ⟨g, n + 1, cap, w', hrun, ownC_grew hn hl hr hf ha hb0 hB ht hown' hgrow hat, (Below.refl _ _).grown hgrow (Nat.le_trans hB hb0.size) (fun k hk => (hr.lt k hk).1), rfl⟩
theorem op_skipS {P : Program} {ops : Array Oper} {Q : Exit → Act → World → Prop} {i : Nat} {o : Oper} {a : Act} {w w' : World} {K : Act → World → Prop} (hi : ops[i]? = some o) (hg : o.guard = none) (hd : o.dst = none) (hr : (execOp a.eval o).run P w = .ok .skip w') (h : K a w') : wpOp P ops Q i K a w := by
  unfold wpOp
  have hw : Region.wanted o (yielded ops a.tmps) = true := by simp [Region.wanted, hg]
  simp only [hi, hw, if_true]
  refine .inl ?_
  unfold Oper.wp
  rw [hr]
  simpa [Oper.upon, hd, Act.put] using h

theorem rest_skip {P : Program} {ops : Array Oper} {Q : Exit → Act → World → Prop} {i : Nat} {o : Oper} {a : Act} {w w' : World} (hi : ops[i]? = some o) (hg : o.guard = none) (hd : o.dst = none) (hr : (execOp a.eval o).run P w = .ok .skip w') (h : Q .normal a w') : RestQ Q (wpOp P ops Q i (Q .normal)) .normal a w := op_skipS hi hg hd hr h

set_option maxHeartbeats 4000000 in
set_option maxRecDepth 100000 in
theorem l10close_any (V : World) (h : Nat) (xs : List Cel) (tr : List Int) (kk0 : Int) (w : World) (hl : xs.length ≤ 20000) (ht : tr.length ≤ 20000) (htx : ∀ a, a < xs.length → (xs.getD a Cel.none).2.2.length ≤ 100) (H : SHp V w h xs tr kk0) :
    Calls Try.prog 56 #[.pointer (some ⟨h, 0, none⟩)] w (StoreR xs tr w) := by
  obtain ⟨W0, eW0⟩ : ∃ W0, W0 = w.alloc (.cells #[.slice none 0 0, .slice none 0 0] 36) := ⟨_, rfl⟩
  have hb0 : Below w.heap.size w W0 := by rw [eW0]; exact (Below.refl _ _).alloc (Nat.le_refl _) _
  have k0 : W0.heap[w.heap.size]? = some (.cells #[.slice none 0 0, .slice none 0 0] 36) := by rw [eW0]; exact heap_alloc_new _ _
  have hz0 : W0.heap.size = w.heap.size + 1 := by rw [eW0]; simp
  have HTX : Hid _ := htx
  have HH : Hid (SHp V w h xs tr kk0) := H
  have HS0 : Hid (SFill W0 (W0.alloc (.cells #[.slice none 0 0, .slice none 0 0] 36)) W0.heap.size (xs.take 0) [] none 0) := by
    have kk := Box2.of_block (heap_alloc_new W0 (.cells #[.slice none 0 0, .slice none 0 0] 36))
    exact ⟨none, 0, ⟨kk.1, kk.2.1⟩, kk.2.2, ⟨rfl, [], rfl, World.ownsRow_nil _ _ _ _, fun i h => absurd h (Nat.not_lt_zero _), ⟨fun i h => absurd h (Nat.not_lt_zero _), fun i j h => absurd h (Nat.not_lt_zero _)⟩⟩, ⟨OwnI.nil _ _ _, fun g e => by cases e⟩, alloc_on _ _, Nat.le_refl _⟩
  have HHr : Hid (∀ wr, Below W0.heap.size W0 wr → SHp V wr h xs tr kk0) := fun wr hr => HH.out.below (Below.on hb0 hr)
  have HB0 : Hid _ := hb0
  have HK0 : Hid _ := k0
  have HZ0 : Hid _ := hz0
  rw [eW0, World.size_alloc] at HS0
  have HE0 : Hid _ := eW0
  clear H htx hb0 k0 hz0 eW0
  go_enter Try.func56, Try.ntmps56
  go_wp2
  rw [← HE0.out] at HS0 ⊢
  go_loopw [4] (fun i wr => ∃ k : Nat, k ≤ xs.length ∧ i = .int .i64 k ∧ Hid (SFill W0 wr (w.heap.size + 1) (xs.take k) [] none 0)) (fun i _ => xs.length - (intOf i).toNat)
  case atStart => exact ⟨0, Nat.zero_le _, rfl, HS0⟩
  case round =>
    obtain ⟨k, hk, rfl, HS⟩ := hrel
    obtain ⟨pc, cc, ⟨s0, s1⟩, hfz, hoc, _, hBr, hle⟩ := HS.out
    obtain ⟨ph, ch, pt, ct, hh, hrow, hint, hVh, hVw⟩ := HHr.out wr hBr
    have h0 : wr.cell? ⟨h, 0, none⟩ = some (.slice ph xs.length ch) := by simp [World.cell?, hh]
    have h1 : wr.cell? ⟨h, 1, none⟩ = some (.slice pt tr.length ct) := by simp [World.cell?, hh]
    have hhw : h < W0.heap.size := by
      obtain ⟨_, _, _, _, h2, _⟩ := HH.out
      have := (Array.getElem?_eq_some_iff.1 h2).1
      have := HZ0.out
      omega
    by_cases hlt : k < xs.length
    · obtain ⟨gg, qx, cx, rfl, hg1, hg2, d0, d1, d2, hbx⟩ := hrow.at k hlt
      have hggw : gg < W0.heap.size := by
        obtain ⟨p2, c2, _, _, h2, r2, _⟩ := HH.out
        obtain ⟨g2, _, _, e2, _, hg3, _⟩ := r2.at k hlt
        have e3 := (HB0.out.block h (Array.getElem?_eq_some_iff.1 h2).1).trans h2
        rw [(hBr.block h hhw).trans e3] at hh
        simp only [Option.some.injEq, Obj.cells.injEq, Array.mk.injEq, List.cons.injEq, Value.slice.injEq, true_and] at hh
        have e4 : some (⟨g2, 0, none⟩ : Addr) = some ⟨gg, 0, none⟩ := by rw [← e2]; simp at hh; exact hh.1.1
        have e5 := congrArg Addr.block (Option.some.inj e4)
        simp at e5
        have := HZ0.out
        omega
      have hfz0 := hfz 0
      have hbs := World.block_lt_of_cell? _ _ s0
      have HOC : Hid (OwnC wr (w.heap.size + 1 + 1) pc (xs.take k).length cc (xs.take k)) := hoc
      have hkl : (xs.take k).length = k := by rw [List.length_take]; omega
      rw [hkl] at s0 HOC
      have htl := HTX.out k hlt
      have HNX : Hid (∀ wx w5 g n' cap, Below wr.heap.size wr wx → OwnC w5 (w.heap.size + 1 + 1) (some ⟨g, 0, none⟩) n' cap (xs.take k ++ [xs.getD k Cel.none]) → Below (w.heap.size + 1 + 1) wx w5 → n' = k + 1 → SFill W0 (w5.setCell ⟨w.heap.size + 1, 0, none⟩ (.slice (some ⟨g, 0, none⟩) n' cap)) (w.heap.size + 1) (xs.take (k + 1)) [] none 0) := fun wx w5 g n' cap a b c d => HS.out.next hlt a b c d
      have HBX : Hid (BIn wr qx (xs.getD k Cel.none).2.2) := hbx.below hVw
      obtain ⟨x, ex⟩ : ∃ x, x = xs.getD k Cel.none := ⟨_, rfl⟩
      rw [← ex] at d0 d1 d2 htl HNX HBX
      clear ex hbx hoc hfz hkl s1 hh hrow hint hg1 hg2 h1
      obtain ⟨y0, y1, yt⟩ := x
      simp only at d0 d1 d2 htl HNX HBX
      obtain ⟨y2, ey2⟩ : ∃ m, m = yt.length := ⟨_, rfl⟩
      rw [← ey2] at d2 htl
      have HY2 : Hid (y2 = yt.length) := ey2
      clear ey2
      have HCP : Hid (∀ m, Calls Try.prog 41 #[.slice qx y2 cx] (wr.drewN m) fun e w' => ∃ p' n' c', e = .returned (.slice p' n' c') ∧ OwnS w' wr.heap.size p' n' c' yt ∧ Below wr.heap.size (wr.drewN m) w') := fun m => l1copy_all qx y2 cx yt (wr.drewN m) HY2.out (by omega) (fun hn => HBX.out hn)
      have hz := HZ0.out
      have HKK : Hid (∀ W, Below wr.heap.size wr W → (W.cell? ⟨h, 0, none⟩ = some (.slice (some ⟨gg, 0, none⟩) xs.length ch) ∧ W.cell? ⟨gg, k * 3, none⟩ = some (.int .i64 y0) ∧ W.cell? ⟨gg, k * 3 + 1, none⟩ = some (.int .i64 y1) ∧ W.cell? ⟨gg, k * 3 + 2, none⟩ = some (.slice qx y2 cx))) := fun W hW => by
        have hs := hBr.size
        exact ⟨(hW.cell (p := ⟨h, 0, none⟩) (by simp; omega)).trans h0, (hW.cell (p := ⟨gg, _, none⟩) (by simp; omega)).trans d0, (hW.cell (p := ⟨gg, _, none⟩) (by simp; omega)).trans d1, (hW.cell (p := ⟨gg, _, none⟩) (by simp; omega)).trans d2⟩
      have hne1 : h ≠ w.heap.size + 1 := by omega
      have hne2 : gg ≠ w.heap.size + 1 := by omega
      have HLB : Hid (h < w.heap.size + 1 + 1 ∧ gg < w.heap.size + 1 + 1) := ⟨by omega, by omega⟩
      clear hz hhw hggw
      go_wp2
      refine wp_region_any (by kernel_rfl) ?_
      refine wpAny_last (p := 31) (S := fun W => W.cell? ⟨w.heap.size + 1, 0, none⟩ = some (.slice pc k cc) ∧ (W.cell? ⟨h, 0, none⟩ = some (.slice (some ⟨gg, 0, none⟩) xs.length ch) ∧ W.cell? ⟨gg, k * 3, none⟩ = some (.int .i64 y0) ∧ W.cell? ⟨gg, k * 3 + 1, none⟩ = some (.int .i64 y1) ∧ W.cell? ⟨gg, k * 3 + 2, none⟩ = some (.slice qx y2 cx))) (by kernel_rfl) 31 _ _ _ rfl (by kernel_rfl) ?_
      change wpAnyH _ _ _ _ _ _ _ _ wr.drew
      have hS0 : wr.drew.cell? ⟨w.heap.size + 1, 0, none⟩ = some (.slice pc k cc) ∧ (wr.drew.cell? ⟨h, 0, none⟩ = some (.slice (some ⟨gg, 0, none⟩) xs.length ch) ∧ wr.drew.cell? ⟨gg, k * 3, none⟩ = some (.int .i64 y0) ∧ wr.drew.cell? ⟨gg, k * 3 + 1, none⟩ = some (.int .i64 y1) ∧ wr.drew.cell? ⟨gg, k * 3 + 2, none⟩ = some (.slice qx y2 cx)) := ⟨s0, HKK.out _ (Below.refl _ _).drew⟩
      have hkI : (0 : Int) ≤ (k : Int) := by omega
      have hlI : (k : Int) < (xs.length : Int) := by omega
      refine hTake (i := 0) (v := .pointer (some ⟨w.heap.size + 1, 0, none⟩)) (some 14) (by kernel_rfl) (by kernel_rfl) (by kernel_rfl) (by kernel_rfl) (by kernel_rfl) (fun _ _ _ h => h) (fun o ho W hSw => ?y0) hS0 ?_
      case y0 =>
        cases ho
        simp [execOp, go_sem, Act.eval]
      simp only [Act.put, List.setIfInBounds_toArray, List.set_cons_zero, List.set_cons_succ]
      refine hTake (i := 1) (v := .slice pc k cc) (some 15) (by kernel_rfl) (by kernel_rfl) (by kernel_rfl) (by kernel_rfl) (by kernel_rfl) (fun _ _ _ h => h) (fun o ho W hSw => ?y1) hS0 ?_
      case y1 =>
        cases ho
        obtain ⟨t0, t1, t2, t3, t4⟩ := hSw
        simp [execOp, go_sem, Act.eval, t0]
      simp only [Act.put, List.setIfInBounds_toArray, List.set_cons_zero, List.set_cons_succ]
      refine hTake (i := 2) (v := .pointer (some ⟨h, 0, none⟩)) (some 16) (by kernel_rfl) (by kernel_rfl) (by kernel_rfl) (by kernel_rfl) (by kernel_rfl) (fun _ _ _ h => h) (fun o ho W hSw => ?y2) hS0 ?_
      case y2 =>
        cases ho
        simp [execOp, go_sem, Act.eval]
      simp only [Act.put, List.setIfInBounds_toArray, List.set_cons_zero, List.set_cons_succ]
      refine hTake (i := 3) (v := .pointer (some ⟨h, 0, none⟩)) (some 17) (by kernel_rfl) (by kernel_rfl) (by kernel_rfl) (by kernel_rfl) (by kernel_rfl) (fun _ _ _ h => h) (fun o ho W hSw => ?y3) hS0 ?_
      case y3 =>
        cases ho
        simp [execOp, go_sem, Act.eval]
      simp only [Act.put, List.setIfInBounds_toArray, List.set_cons_zero, List.set_cons_succ]
      refine hTake (i := 4) (v := .pointer (some ⟨h, 0, none⟩)) (some 18) (by kernel_rfl) (by kernel_rfl) (by kernel_rfl) (by kernel_rfl) (by kernel_rfl) (fun _ _ _ h => h) (fun o ho W hSw => ?y4) hS0 ?_
      case y4 =>
        cases ho
        simp [execOp, go_sem, Act.eval]
      simp only [Act.put, List.setIfInBounds_toArray, List.set_cons_zero, List.set_cons_succ]
      refine hTake (i := 5) (v := .slice (some ⟨gg, 0, none⟩) xs.length ch) (some 19) (by kernel_rfl) (by kernel_rfl) (by kernel_rfl) (by kernel_rfl) (by kernel_rfl) (fun _ _ _ h => h) (fun o ho W hSw => ?y5) hS0 ?_
      case y5 =>
        cases ho
        obtain ⟨t0, t1, t2, t3, t4⟩ := hSw
        simp [execOp, go_sem, Act.eval, t1]
      simp only [Act.put, List.setIfInBounds_toArray, List.set_cons_zero, List.set_cons_succ]
      refine hTake (i := 6) (v := .int .i64 k) (some 20) (by kernel_rfl) (by kernel_rfl) (by kernel_rfl) (by kernel_rfl) (by kernel_rfl) (fun _ _ _ h => h) (fun o ho W hSw => ?y6) hS0 ?_
      case y6 =>
        cases ho
        simp [execOp, go_sem, Act.eval]
      simp only [Act.put, List.setIfInBounds_toArray, List.set_cons_zero, List.set_cons_succ]
      refine hTake (i := 7) (v := .pointer (some ⟨gg, k * 3, none⟩)) (some 21) (by kernel_rfl) (by kernel_rfl) (by kernel_rfl) (by kernel_rfl) (by kernel_rfl) (fun _ _ _ h => h) (fun o ho W hSw => ?y7) hS0 ?_
      case y7 =>
        cases ho
        simp [execOp, go_sem, Act.eval, hkI, hlI]
      simp only [Act.put, List.setIfInBounds_toArray, List.set_cons_zero, List.set_cons_succ]
      refine hTake (i := 8) (v := .pointer (some ⟨gg, k * 3, none⟩)) (some 22) (by kernel_rfl) (by kernel_rfl) (by kernel_rfl) (by kernel_rfl) (by kernel_rfl) (fun _ _ _ h => h) (fun o ho W hSw => ?y8) hS0 ?_
      case y8 =>
        cases ho
        simp [execOp, go_sem, Act.eval]
      simp only [Act.put, List.setIfInBounds_toArray, List.set_cons_zero, List.set_cons_succ]
      refine hTake (i := 9) (v := .int .i64 y0) (some 23) (by kernel_rfl) (by kernel_rfl) (by kernel_rfl) (by kernel_rfl) (by kernel_rfl) (fun _ _ _ h => h) (fun o ho W hSw => ?y9) hS0 ?_
      case y9 =>
        cases ho
        obtain ⟨t0, t1, t2, t3, t4⟩ := hSw
        simp [execOp, go_sem, Act.eval, t2]
      simp only [Act.put, List.setIfInBounds_toArray, List.set_cons_zero, List.set_cons_succ]
      refine hTake (i := 10) (v := .pointer (some ⟨h, 0, none⟩)) (some 24) (by kernel_rfl) (by kernel_rfl) (by kernel_rfl) (by kernel_rfl) (by kernel_rfl) (fun _ _ _ h => h) (fun o ho W hSw => ?y10) hS0 ?_
      case y10 =>
        cases ho
        simp [execOp, go_sem, Act.eval]
      simp only [Act.put, List.setIfInBounds_toArray, List.set_cons_zero, List.set_cons_succ]
      refine hTake (i := 11) (v := .pointer (some ⟨h, 0, none⟩)) (some 25) (by kernel_rfl) (by kernel_rfl) (by kernel_rfl) (by kernel_rfl) (by kernel_rfl) (fun _ _ _ h => h) (fun o ho W hSw => ?y11) hS0 ?_
      case y11 =>
        cases ho
        simp [execOp, go_sem, Act.eval]
      simp only [Act.put, List.setIfInBounds_toArray, List.set_cons_zero, List.set_cons_succ]
      refine hTake (i := 12) (v := .pointer (some ⟨h, 0, none⟩)) (some 26) (by kernel_rfl) (by kernel_rfl) (by kernel_rfl) (by kernel_rfl) (by kernel_rfl) (fun _ _ _ h => h) (fun o ho W hSw => ?y12) hS0 ?_
      case y12 =>
        cases ho
        simp [execOp, go_sem, Act.eval]
      simp only [Act.put, List.setIfInBounds_toArray, List.set_cons_zero, List.set_cons_succ]
      refine hTake (i := 13) (v := .slice (some ⟨gg, 0, none⟩) xs.length ch) (some 27) (by kernel_rfl) (by kernel_rfl) (by kernel_rfl) (by kernel_rfl) (by kernel_rfl) (fun _ _ _ h => h) (fun o ho W hSw => ?y13) hS0 ?_
      case y13 =>
        cases ho
        obtain ⟨t0, t1, t2, t3, t4⟩ := hSw
        simp [execOp, go_sem, Act.eval, t1]
      simp only [Act.put, List.setIfInBounds_toArray, List.set_cons_zero, List.set_cons_succ]
      refine hTake (i := 14) (v := .int .i64 k) (some 28) (by kernel_rfl) (by kernel_rfl) (by kernel_rfl) (by kernel_rfl) (by kernel_rfl) (fun _ _ _ h => h) (fun o ho W hSw => ?y14) hS0 ?_
      case y14 =>
        cases ho
        simp [execOp, go_sem, Act.eval]
      simp only [Act.put, List.setIfInBounds_toArray, List.set_cons_zero, List.set_cons_succ]
      refine hTake (i := 15) (v := .pointer (some ⟨gg, k * 3, none⟩)) (some 29) (by kernel_rfl) (by kernel_rfl) (by kernel_rfl) (by kernel_rfl) (by kernel_rfl) (fun _ _ _ h => h) (fun o ho W hSw => ?y15) hS0 ?_
      case y15 =>
        cases ho
        simp [execOp, go_sem, Act.eval, hkI, hlI]
      simp only [Act.put, List.setIfInBounds_toArray, List.set_cons_zero, List.set_cons_succ]
      refine hTake (i := 16) (v := .pointer (some ⟨gg, k * 3 + 1, none⟩)) (some 30) (by kernel_rfl) (by kernel_rfl) (by kernel_rfl) (by kernel_rfl) (by kernel_rfl) (fun _ _ _ h => h) (fun o ho W hSw => ?y16) hS0 ?_
      case y16 =>
        cases ho
        simp [execOp, go_sem, Act.eval]
      simp only [Act.put, List.setIfInBounds_toArray, List.set_cons_zero, List.set_cons_succ]
      refine hTake (i := 17) (v := .int .i64 y1) (some 31) (by kernel_rfl) (by kernel_rfl) (by kernel_rfl) (by kernel_rfl) (by kernel_rfl) (fun _ _ _ h => h) (fun o ho W hSw => ?y17) hS0 ?_
      case y17 =>
        cases ho
        obtain ⟨t0, t1, t2, t3, t4⟩ := hSw
        simp [execOp, go_sem, Act.eval, t3]
      simp only [Act.put, List.setIfInBounds_toArray, List.set_cons_zero, List.set_cons_succ]
      refine hTake (i := 18) (v := .pointer (some ⟨h, 0, none⟩)) (some 32) (by kernel_rfl) (by kernel_rfl) (by kernel_rfl) (by kernel_rfl) (by kernel_rfl) (fun _ _ _ h => h) (fun o ho W hSw => ?y18) hS0 ?_
      case y18 =>
        cases ho
        simp [execOp, go_sem, Act.eval]
      simp only [Act.put, List.setIfInBounds_toArray, List.set_cons_zero, List.set_cons_succ]
      refine hTake (i := 19) (v := .pointer (some ⟨h, 0, none⟩)) (some 33) (by kernel_rfl) (by kernel_rfl) (by kernel_rfl) (by kernel_rfl) (by kernel_rfl) (fun _ _ _ h => h) (fun o ho W hSw => ?y19) hS0 ?_
      case y19 =>
        cases ho
        simp [execOp, go_sem, Act.eval]
      simp only [Act.put, List.setIfInBounds_toArray, List.set_cons_zero, List.set_cons_succ]
      refine hTake (i := 20) (v := .pointer (some ⟨h, 0, none⟩)) (some 34) (by kernel_rfl) (by kernel_rfl) (by kernel_rfl) (by kernel_rfl) (by kernel_rfl) (fun _ _ _ h => h) (fun o ho W hSw => ?y20) hS0 ?_
      case y20 =>
        cases ho
        simp [execOp, go_sem, Act.eval]
      simp only [Act.put, List.setIfInBounds_toArray, List.set_cons_zero, List.set_cons_succ]
      refine hTake (i := 21) (v := .slice (some ⟨gg, 0, none⟩) xs.length ch) (some 35) (by kernel_rfl) (by kernel_rfl) (by kernel_rfl) (by kernel_rfl) (by kernel_rfl) (fun _ _ _ h => h) (fun o ho W hSw => ?y21) hS0 ?_
      case y21 =>
        cases ho
        obtain ⟨t0, t1, t2, t3, t4⟩ := hSw
        simp [execOp, go_sem, Act.eval, t1]
      simp only [Act.put, List.setIfInBounds_toArray, List.set_cons_zero, List.set_cons_succ]
      refine hTake (i := 22) (v := .int .i64 k) (some 36) (by kernel_rfl) (by kernel_rfl) (by kernel_rfl) (by kernel_rfl) (by kernel_rfl) (fun _ _ _ h => h) (fun o ho W hSw => ?y22) hS0 ?_
      case y22 =>
        cases ho
        simp [execOp, go_sem, Act.eval]
      simp only [Act.put, List.setIfInBounds_toArray, List.set_cons_zero, List.set_cons_succ]
      refine hTake (i := 23) (v := .pointer (some ⟨gg, k * 3, none⟩)) (some 37) (by kernel_rfl) (by kernel_rfl) (by kernel_rfl) (by kernel_rfl) (by kernel_rfl) (fun _ _ _ h => h) (fun o ho W hSw => ?y23) hS0 ?_
      case y23 =>
        cases ho
        simp [execOp, go_sem, Act.eval, hkI, hlI]
      simp only [Act.put, List.setIfInBounds_toArray, List.set_cons_zero, List.set_cons_succ]
      refine hTake (i := 24) (v := .pointer (some ⟨gg, k * 3 + 2, none⟩)) (some 38) (by kernel_rfl) (by kernel_rfl) (by kernel_rfl) (by kernel_rfl) (by kernel_rfl) (fun _ _ _ h => h) (fun o ho W hSw => ?y24) hS0 ?_
      case y24 =>
        cases ho
        simp [execOp, go_sem, Act.eval]
      simp only [Act.put, List.setIfInBounds_toArray, List.set_cons_zero, List.set_cons_succ]
      refine hTake (i := 25) (v := .slice qx y2 cx) (some 39) (by kernel_rfl) (by kernel_rfl) (by kernel_rfl) (by kernel_rfl) (by kernel_rfl) (fun _ _ _ h => h) (fun o ho W hSw => ?y25) hS0 ?_
      case y25 =>
        cases ho
        obtain ⟨t0, t1, t2, t3, t4⟩ := hSw
        simp [execOp, go_sem, Act.eval, t4]
      simp only [Act.put, List.setIfInBounds_toArray, List.set_cons_zero, List.set_cons_succ]
      refine hCallE (i := 26) (f := 41) (args := #[.slice qx y2 cx]) (some 40) (by kernel_rfl) (by kernel_rfl) (by kernel_rfl) (fun o ho => ?c26) (HCP.out 1) ?k26 (fun ch w' => by rintro ⟨_, _, _, h, _⟩; cases h) (fun w' => by rintro ⟨_, _, _, h, _⟩; cases h)
      case c26 =>
        cases ho
        simp [execOp, go_sem, Act.eval]
      case k26 =>
        rintro u w3 ⟨p3, m3, c3, hu, ho3, hb3⟩
        obtain rfl := Ending.returned.inj hu
        have hb3' : Below wr.heap.size wr w3 := (below_drewN (Below.refl _ _) 1).trans hb3
        have s3 := (hb3'.cell hbs).trans s0
        have hS3 : w3.cell? ⟨w.heap.size + 1, 0, none⟩ = some (.slice pc k cc) ∧ (w3.cell? ⟨h, 0, none⟩ = some (.slice (some ⟨gg, 0, none⟩) xs.length ch) ∧ w3.cell? ⟨gg, k * 3, none⟩ = some (.int .i64 y0) ∧ w3.cell? ⟨gg, k * 3 + 1, none⟩ = some (.int .i64 y1) ∧ w3.cell? ⟨gg, k * 3 + 2, none⟩ = some (.slice qx y2 cx)) := ⟨s3, HKK.out _ hb3'⟩
        refine ⟨hS3, ?_⟩
        simp only [Act.put, List.setIfInBounds_toArray, List.set_cons_zero, List.set_cons_succ]
        refine hTake (i := 27) (v := .agg #[.int .i64 y0, .int .i64 y1, .slice p3 m3 c3]) (some 41) (by kernel_rfl) (by kernel_rfl) (by kernel_rfl) (by kernel_rfl) (by kernel_rfl) (fun _ _ _ h => h) (fun o ho W hSw => ?y27) hS3 ?_
        case y27 =>
          cases ho
          simp [execOp, go_sem, Act.eval]
        simp only [Act.put, List.setIfInBounds_toArray, List.set_cons_zero, List.set_cons_succ]
        have hbA : Below wr.heap.size wr (w3.alloc (.cells #[.int .i64 y0, .int .i64 y1, .slice p3 m3 c3] 31)) := hb3'.alloc hb3'.size _
        refine hStep (i := 28) (v := .slice (some ⟨w3.heap.size, 0, none⟩) 1 1) (w' := w3.alloc (.cells #[.int .i64 y0, .int .i64 y1, .slice p3 m3 c3] 31)) (some 42) (by kernel_rfl) (by kernel_rfl) (by kernel_rfl) (fun o ho => ?y28) ⟨(hbA.cell hbs).trans s0, HKK.out _ hbA⟩ ?_
        case y28 =>
          cases ho
          simp [execOp, go_sem, Act.eval]
        simp only [Act.put, List.setIfInBounds_toArray, List.set_cons_zero, List.set_cons_succ]
        obtain ⟨g, n', cap, w5, hr5, hown5, hb5, hn5⟩ := run_app_cell wr (w3.alloc (.cells #[.int .i64 y0, .int .i64 y1, .slice p3 m3 c3] 31)) (w.heap.size + 1 + 1) pc k cc (xs.take k) HOC.out hbA hbs ⟨w3.heap.size, 0, none⟩ 1 y0 y1 p3 m3 c3 yt (ho3.toT.below (alloc_on _ _)) (news_rc (Box3.of_block (t := 31) (heap_alloc_new _ _))) (by omega)
        have kk5 := HKK.out _ hbA
        have s5 : w5.cell? ⟨w.heap.size + 1, 0, none⟩ = some (.slice pc k cc) := (hb5.cell (p := ⟨w.heap.size + 1, 0, none⟩) (Nat.lt_succ_self _)).trans ((hbA.cell hbs).trans s0)
        have f5 : w5.frozen? ⟨w.heap.size + 1, 0, none⟩ = false := (hb5.frozen (p := ⟨w.heap.size + 1, 0, none⟩) (Nat.lt_succ_self _)).trans ((hbA.frozen hbs).trans hfz0)
        have hS5 : w5.cell? ⟨w.heap.size + 1, 0, none⟩ = some (.slice pc k cc) ∧ (w5.cell? ⟨h, 0, none⟩ = some (.slice (some ⟨gg, 0, none⟩) xs.length ch) ∧ w5.cell? ⟨gg, k * 3, none⟩ = some (.int .i64 y0) ∧ w5.cell? ⟨gg, k * 3 + 1, none⟩ = some (.int .i64 y1) ∧ w5.cell? ⟨gg, k * 3 + 2, none⟩ = some (.slice qx y2 cx)) := ⟨s5, (hb5.cell (p := ⟨h, _, none⟩) HLB.out.1).trans kk5.1, (hb5.cell (p := ⟨gg, _, none⟩) HLB.out.2).trans kk5.2.1, (hb5.cell (p := ⟨gg, _, none⟩) HLB.out.2).trans kk5.2.2.1, (hb5.cell (p := ⟨gg, _, none⟩) HLB.out.2).trans kk5.2.2.2⟩
        refine hStep (i := 29) (v := .slice (some ⟨g, 0, none⟩) n' cap) (w' := w5) (some 43) (by kernel_rfl) (by kernel_rfl) (by kernel_rfl) (fun o ho => ?y29) hS5 ?_
        case y29 =>
          cases ho
          exact exec_appC rfl rfl rfl rfl hr5
        simp only [Act.put, List.setIfInBounds_toArray, List.set_cons_zero, List.set_cons_succ]
        refine hTake (i := 30) (v := .pointer (some ⟨w.heap.size + 1, 0, none⟩)) (some 44) (by kernel_rfl) (by kernel_rfl) (by kernel_rfl) (by kernel_rfl) (by kernel_rfl) (fun _ _ _ h => h) (fun o ho W hSw => ?y30) hS5 ?_
        case y30 =>
          cases ho
          simp [execOp, go_sem, Act.eval]
        simp only [Act.put, List.setIfInBounds_toArray, List.set_cons_zero, List.set_cons_succ]
        refine wpAnyH_done (by kernel_rfl) ?_ _
        have HF5 : Hid _ := HNX.out _ w5 g n' cap hbA hown5 hb5 hn5
        clear hown5 hb5 hn5 hr5 hS5 kk5 hS3 hS0 hbA hb3' hb3 ho3 s3 hkI hlI
        refine rest_skip (by rfl) (by rfl) (by rfl) (w' := w5.setCell ⟨w.heap.size + 1, 0, none⟩ (.slice (some ⟨g, 0, none⟩) n' cap)) ?_ ?_
        · simp [execOp, go_sem, Act.eval, s5, f5]
        clear s5 f5
        go_wp2
        go_roundw
        case rel => exact ⟨k + 1, by omega, by go_num, HF5⟩
        case measure => simp [intOf]; omega
    · obtain rfl : k = xs.length := by omega
      have hoc' := hoc
      rw [List.take_length] at hoc' s0
      obtain ⟨pq, cq, w6, hr6, hb6, hoi6, hfr6⟩ := app_nilI wr.drew 23 (w.heap.size + 1 + 1) pt ct tr (show w.heap.size + 1 + 1 ≤ wr.heap.size from World.block_lt_of_cell? _ _ s0) ht (fun hn => hint.iin hn)
      have HOC : Hid (OwnC wr (w.heap.size + 1 + 1) pc xs.length cc xs) := hoc'
      have hbq : Below wr.heap.size wr w6 := ⟨hb6.os, hb6.tape, hb6.output, hb6.size, hb6.block⟩
      have hlo := World.block_lt_of_cell? _ _ s0
      have t0 := (hbq.cell hlo).trans s0
      have t1 := (hbq.cell (p := ⟨w.heap.size + 1, 1, none⟩) hlo).trans s1
      have tf : ∀ j, w6.frozen? ⟨w.heap.size + 1, j, none⟩ = false := fun j => (hbq.frozen (p := ⟨w.heap.size + 1, j, none⟩) hlo).trans (hfz j)
      have tf1 := tf 1
      have r := Box2.of_block ((hbq.block w.heap.size (by simp at hlo; omega)).trans ((hBr.block w.heap.size (by have := HZ0.out; omega)).trans HK0.out))
      obtain ⟨V7, eV7⟩ : ∃ V7, V7 = w6.setCell ⟨w.heap.size + 1, 1, none⟩ (.slice pq tr.length cq) := ⟨_, rfl⟩
      have u0 : V7.cell? ⟨w.heap.size + 1, 0, none⟩ = some (.slice pc xs.length cc) := by rw [eV7]; exact (World.cell?_setCell_other _ _ _ _ (by simp)).trans t0
      have u1 : V7.cell? ⟨w.heap.size + 1, 1, none⟩ = some (.slice pq tr.length cq) := by rw [eV7]; exact World.cell?_setCell_same _ _ _ t1
      have v : Box2 V7 w.heap.size (.slice none 0 0) (.slice none 0 0) := by
        rw [eV7]
        exact ⟨(World.cell?_setCell_other _ _ _ _ (by simp)).trans r.1, (World.cell?_setCell_other _ _ _ _ (by simp)).trans r.2.1, fun j => by rw [World.frozen?_setCell]; exact r.2.2 j⟩
      obtain ⟨v0, v1, v2⟩ := v
      have HR : Hid (Box2 ((V7.setCell ⟨w.heap.size, 0, none⟩ (.slice pc xs.length cc)).setCell ⟨w.heap.size, 1, none⟩ (.slice pq tr.length cq)) w.heap.size (.slice pc xs.length cc) (.slice pq tr.length cq)) := Box2.put ⟨v0, v1, v2⟩ _ _
      have HFI : Hid (StoreR xs tr w (.returned (.agg #[.slice pc xs.length cc, .slice pq tr.length cq])) ((V7.setCell ⟨w.heap.size, 0, none⟩ (.slice pc xs.length cc)).setCell ⟨w.heap.size, 1, none⟩ (.slice pq tr.length cq))) := by
        refine ⟨pc, pq, cc, cq, rfl, ?_, ?_, ?_⟩
        · rw [eV7]
          exact ((((HOC.out.below hbq).set (by simp) _).set (by simp; omega) _).set (by simp; omega) _).mono (by omega)
        · rw [eV7]
          exact (((hoi6.set (by simp) _).set (by simp; omega) _).set (by simp; omega) _).mono (by omega)
        · rw [eV7]
          exact ((((Below.on HB0.out hBr).trans (hbq.mono (Nat.le_trans HB0.out.size hBr.size))).setCell (p := ⟨w.heap.size + 1, 1, none⟩) (by simp) _).setCell (p := ⟨w.heap.size, 0, none⟩) (Nat.le_refl _) _).setCell (p := ⟨w.heap.size, 1, none⟩) (Nat.le_refl _) _
      have HEV : Hid _ := eV7
      rw [eV7] at u0 u1 v0 v1 v2
      clear hoi6 hfr6 hb6 hbq hlo tf r hoc hoc' HOC hint hrow hh hfz hVh hVw eV7
      go_wp2
      go_region_law (refine step_app_run rfl _ _ _ _ rfl _ _ _ _ _ rfl rfl hr6 ?_)
      all_goals
        go_wp2
        obtain ⟨d0, d1, _⟩ := HR.out
        rw [HEV.out] at d0 d1
        refine bodyPost_ret (v := .agg #[.slice pc xs.length cc, .slice pq tr.length cq]) (by simp [results, Try.results56, go_sem, d0, d1]) rfl ?_
        have := HFI.out
        rw [HEV.out] at this
        exact this

end Go.Proofs.Ytedkkghekboahaa

namespace Go.Proofs.Ytedkkghekboahaa
open Go Go.RowKit
set_option linter.unusedVariables false

/-- What is valid is one tree. -/
theorem tree_of {cs : List Cel} (hb : ∀ i, i < cs.length → Byte (cs.getD i Cel.none).2.2) (hv : validB cs = true) : ∃ c k, cs = c :: k.cells ∧ (Fo.node c k .nil).ok ∧ cs.length ≤ 2000 := by
  simp only [validB, Bool.and_eq_true, decide_eq_true_eq] at hv
  obtain ⟨F, h1, h2, h3⟩ := forest_of cs 1 hb hv.2
  cases F with
  | nil => simp [Fo.count] at h1
  | node c k r =>
    cases r with
    | nil => exact ⟨c, k, by rw [← h2]; simp [Fo.cells], h3, hv.1⟩
    | node a b d => simp [Fo.count] at h1
set_option maxRecDepth 100000 in
theorem termOf_any (c : Cel) (k : Fo) (p : Option Addr) (n cap : Nat) (w : World) (hok : (Fo.node c k .nil).ok) (hn : n = k.cells.length + 1) (hc : n ≤ cap) (hm : cap ≤ 1000000000) (hin : CIn w p (c :: k.cells)) :
    Calls Try.prog 72 #[.slice p n cap] w fun e w' => ∃ v, e = .returned v ∧ FoIn w' w.heap.size (.node c k .nil) [v] ∧ Below w.heap.size w w' := by
  have HF : Calls Try.prog 97 #[.slice p n cap] w (FirstOut w w c k [] cap) := firstTerm_any k.cells.length c k p n cap [] w w (Below.refl _ _) (Nat.le_refl _) hok (by rw [hn]; rfl) hc hm (by rw [List.append_nil]; exact hin)
  clear hok hin hn
  go_enter Try.func72, Try.ntmps72
  go_wp2_with fail
  refine HF.mono ?_
  rintro e w1 ⟨v, q, l, cp, rfl, _, _, _, hfo, hb⟩
  obtain ⟨vt, vx, rfl⟩ := hfo.iface
  have HFO : Hid (FoIn w1 w.heap.size (.node c k .nil) [.iface vt vx]) := hfo
  have HB : Hid (Below w.heap.size w w1) := hb
  clear hfo hb HF
  go_wp2_with fail
  go_ret
  exact ⟨_, rfl, HFO.out, HB.out⟩

end Go.Proofs.Ytedkkghekboahaa

namespace Go.Proofs.Ytedkkghekboahaa
open Go Go.RowKit
set_option linter.unusedVariables false

theorem noAtom_comp (w : World) (x : Value) : (Instr.typeAssert (.iface 158 x) 80 122 true).run Try.prog w = .ok (.tuple #[.string ⟨#[]⟩, .bool false]) w := by kernel_rfl
theorem isAtom (w : World) (x : Value) : (Instr.typeAssert (.iface 122 x) 80 122 true).run Try.prog w = .ok (.tuple #[x, .bool true]) w := by kernel_rfl
set_option maxRecDepth 100000 in
theorem functor_any (b g q : Nat) (str : ByteArray) (w : World) (h0 : w.cell? ⟨b, 0, none⟩ = some (.string str)) (h1 : w.cell? ⟨b, 1, none⟩ = some (.slice (some ⟨g, 0, none⟩) q q)) :
    Calls Try.prog 119 #[.pointer (some ⟨b, 0, none⟩)] w fun e w' => e = .returned (.agg #[.string str, .int .i64 q]) ∧ Below w.heap.size w w' := by
  have a0 : ∀ x, (w.alloc x).cell? ⟨b, 0, none⟩ = some (.string str) := fun x => Lib.cell?_alloc_marked x h0
  have a1 : ∀ x, (w.alloc x).cell? ⟨b, 1, none⟩ = some (.slice (some ⟨g, 0, none⟩) q q) := fun x => Lib.cell?_alloc_marked x h1
  go_enter Try.func119, Try.ntmps119
  go_wp2_with fail
  go_region
  all_goals go_wp2_with fail
  all_goals exact bodyPost_ret (v := .agg #[.string str, .int .i64 q]) (by simp [results, Try.results119, go_sem]) rfl ⟨rfl, ((Below.refl _ _).alloc (Nat.le_refl _) _).drew⟩

end Go.Proofs.Ytedkkghekboahaa

