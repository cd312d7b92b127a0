/- Texts of DrM, RegK, RegK2. Own work of the verifier. -/
import Derived.Test.YtfnmoaiejpkocaaUqao
import Derived.Test.YtfnmoaiejpkocaaUqai
import Derived.Test.YtfnmoaiejpkocaaUqar
import Derived.Deep.RegionHeld3
namespace Go.Proofs.Ytfnmoaiejpkocaa
open Go Go.RowKit Go.Maps
set_option linter.unusedVariables false

/-- How many references may be followed from the word in a box. -/
noncomputable def rkB (xs : List Cel) (b : Nat) (w : World) : Nat :=
  match w.cell? ⟨b, 0, none⟩, w.cell? ⟨b, 1, none⟩ with
  | some (.int _ k), some (.int _ n) => if k = 0 then rk xs n.toNat + 1 else 0
  | _, _ => 0
theorem rkB_box {xs : List Cel} {b : Nat} {w : World} {c : Cel} {v : Value} (h : Box3 w b (.int .i64 c.1) (.int .i64 c.2.1) v) : rkB xs b w = rkW xs c := by
  unfold rkB
  rw [h.1, h.2.1]
  rfl
/-- The boxes of l10deref: the word at hand, and the answer's. -/
def DSt (W0 w0 w : World) (xs : List Cel) (h : Nat) (tr : List Int) (k : Int) (c' : Cel) (q : Option Addr) (cq : Nat) : Prop :=
  Box3 w w0.heap.size (.int .i64 c'.1) (.int .i64 c'.2.1) (.slice q c'.2.2.length cq) ∧ Box3 w (w0.heap.size + 1) (.int .i64 0) (.int .i64 0) (.slice none 0 0) ∧ BIn W0 q c'.2.2 ∧ Below w0.heap.size w0 w ∧ w0.heap.size + 1 + 1 ≤ w.heap.size

set_option maxHeartbeats 1000000 in
set_option maxRecDepth 100000 in
theorem l10deref_any (W0 : World) (h : Nat) (p : Option Addr) (cp : Nat) (c : Cel) (xs : List Cel) (tr : List Int) (kk : Int) (w : World) (g : Good xs) (hc : WdC xs c) (hp : BIn W0 p c.2.2) (H : SHp W0 w h xs tr kk) :
    Calls Try.prog 39 #[.pointer (some ⟨h, 0, none⟩), .agg #[.int .i64 c.1, .int .i64 c.2.1, .slice p c.2.2.length cp]] w fun e w' => ∃ p' cp', e = .returned (.agg #[.int .i64 (drf xs c).1, .int .i64 (drf xs c).2.1, .slice p' (drf xs c).2.2.length cp']) ∧ BIn W0 p' (drf xs c).2.2 ∧ Below w.heap.size w w' := by
  have HH : Hid (SHp W0 w h xs tr kk) := H
  have HG : Hid (Good xs) := g
  have HC : Hid (WdC xs c) := hc
  have hl := g.shp.len
  have HS0 : Hid (DSt W0 w ((w.alloc (.cells #[.int .i64 c.1, .int .i64 c.2.1, .slice p c.2.2.length cp] 31)).alloc (.cells #[.int .i64 0, .int .i64 0, .slice none 0 0] 31)) xs h tr kk c p cp) := by
    refine ⟨Box3.of_block (t := 31) ?_, Box3.of_block (t := 31) ?_, hp, ((Below.refl _ _).alloc (Nat.le_refl _) _).alloc (by simp) _, by simp⟩
    · rw [Below.heap_alloc _ _ _ (by simp)]; exact heap_alloc_new _ _
    · have := heap_alloc_new (w.alloc (.cells #[.int .i64 c.1, .int .i64 c.2.1, .slice p c.2.2.length cp] 31)) (.cells #[.int .i64 0, .int .i64 0, .slice none 0 0] 31)
      simpa using this
  -- the end: the word at hand is the answer
  have HEND : Hid (∀ (wr : World) (c' : Cel) (q : Option Addr) (cq : Nat), DSt W0 w wr xs h tr kk c' q cq → drf xs c' = drf xs c → onB xs c' = false → ∀ v0 v1 v2, v0 = .int .i64 c'.1 → v1 = .int .i64 c'.2.1 → v2 = .slice q c'.2.2.length cq →
      ((((wr.setCell ⟨w.heap.size + 1, 0, none⟩ v0).setCell ⟨w.heap.size + 1, 1, none⟩ v1).setCell ⟨w.heap.size + 1, 2, none⟩ v2).cell? ⟨w.heap.size + 1, 0, none⟩ = some v0 ∧ (((wr.setCell ⟨w.heap.size + 1, 0, none⟩ v0).setCell ⟨w.heap.size + 1, 1, none⟩ v1).setCell ⟨w.heap.size + 1, 2, none⟩ v2).cell? ⟨w.heap.size + 1, 1, none⟩ = some v1 ∧ (((wr.setCell ⟨w.heap.size + 1, 0, none⟩ v0).setCell ⟨w.heap.size + 1, 1, none⟩ v1).setCell ⟨w.heap.size + 1, 2, none⟩ v2).cell? ⟨w.heap.size + 1, 2, none⟩ = some v2) ∧
      ∃ p' cp', Ending.returned (.agg #[v0, v1, v2]) = .returned (.agg #[.int .i64 (drf xs c).1, .int .i64 (drf xs c).2.1, .slice p' (drf xs c).2.2.length cp']) ∧ BIn W0 p' (drf xs c).2.2 ∧ Below w.heap.size w (((wr.setCell ⟨w.heap.size + 1, 0, none⟩ v0).setCell ⟨w.heap.size + 1, 1, none⟩ v1).setCell ⟨w.heap.size + 1, 2, none⟩ v2)) := fun wr c' q cq hs hd ho v0 v1 v2 e0 e1 e2 => by
    have e : c' = drf xs c := by rw [← hd, drf_stop ho]
    subst e0 e1 e2
    refine ⟨box3_set hs.2.1.1 hs.2.1.2.1 hs.2.1.2.2.1 _ _ _, q, cq, by rw [← e], by rw [← e]; exact hs.2.2.1, ((hs.2.2.2.1.setCell (p := ⟨_, _, none⟩) (by simp) _).setCell (p := ⟨_, _, none⟩) (by simp) _).setCell (p := ⟨_, _, none⟩) (by simp) _⟩
  clear H g hc hp
  go_enter Try.func39, Try.ntmps39
  go_wp2
  go_loopw [] (fun wr => ∃ c' q cq, Hid (WdC xs c') ∧ Hid (drf xs c' = drf xs c) ∧ Hid (DSt W0 w wr xs h tr kk c' q cq)) (fun wr => rkB xs w.heap.size wr)
  case atStart => exact ⟨c, p, cp, HC, rfl, HS0⟩
  case round =>
    obtain ⟨c', q, cq, HW, HD, HS⟩ := hrel
    obtain ⟨⟨b0, b1, b2, b3⟩, ⟨r0, r1, r2, r3⟩, _, _, hsz⟩ := HS.out
    have HM : Hid (rkB xs w.heap.size wr = rkW xs c') := rkB_box HS.out.1
    by_cases k0 : c'.1 = 0
    · obtain ⟨n0, n1, n2⟩ := HW.out.2.1 k0
      obtain ⟨j, ej⟩ : ∃ j : Nat, c'.2.1 = j := ⟨c'.2.1.toNat, by omega⟩
      have hj : j < xs.length := by omega
      have HHr : Hid (SHp W0 wr h xs tr kk) := HH.out.below HS.out.2.2.2.1
      obtain ⟨pc, cc, pt, ct, hh, hrow, _, _, _⟩ := HHr.out
      obtain ⟨gg, qx, cx, rfl, hg1, hg2, d0, d1, d2, hbx⟩ := hrow.at j hj
      have h0 : wr.cell? ⟨h, 0, none⟩ = some (.slice (some ⟨gg, 0, none⟩) xs.length cc) := by simp [World.cell?, hh]
      rw [k0] at b0
      rw [ej] at b1
      obtain ⟨y0, ey0⟩ : ∃ x, x = (xs.getD j Cel.none).1 := ⟨_, rfl⟩
      obtain ⟨y1, ey1⟩ : ∃ x, x = (xs.getD j Cel.none).2.1 := ⟨_, rfl⟩
      obtain ⟨y2, ey2⟩ : ∃ x, x = (xs.getD j Cel.none).2.2.length := ⟨_, rfl⟩
      rw [← ey0] at d0
      rw [← ey1] at d1
      rw [← ey2] at d2
      have HY : Hid (y0 = (xs.getD j Cel.none).1 ∧ y1 = (xs.getD j Cel.none).2.1 ∧ y2 = (xs.getD j Cel.none).2.2.length ∧ BIn W0 qx (xs.getD j Cel.none).2.2) := ⟨ey0, ey1, ey2, hbx⟩
      have HJ : Hid (c'.1 = 0 ∧ c'.2.1 = j) := ⟨k0, ej⟩
      have hlh := World.block_lt_of_cell? _ _ h0
      have HVB : Hid (varB xs j = (decide (y0 = 0) && decide (y1 = j))) := by
        show _ = _
        rw [Bool.eq_iff_iff]
        simp [varB, kndA, numA, hj, ey0, ey1]
      obtain ⟨m2, em2⟩ : ∃ m, m = c'.2.2.length := ⟨_, rfl⟩
      rw [← em2] at b2
      have HM2 : Hid (m2 = c'.2.2.length) := em2
      clear n0 n1 n2 ej k0 hrow hbx ey0 ey1 ey2 em2 hh
      have hw1 : w.heap.size < wr.heap.size := by omega
      have hw2 : w.heap.size + 1 < wr.heap.size := by omega
      go_wp2
      go_region_held3 (fun W => W.cell? ⟨h, 0, none⟩ = some (.slice (some ⟨gg, 0, none⟩) xs.length cc) ∧ W.cell? ⟨w.heap.size, 1, none⟩ = some (.int .i64 j) ∧ W.cell? ⟨gg, j * 3, none⟩ = some (.int .i64 y0) ∧ W.cell? ⟨gg, j * 3 + 1, none⟩ = some (.int .i64 y1) ∧ W.cell? ⟨gg, j * 3 + 2, none⟩ = some (.slice qx y2 cx)) (go_keep) (fail)
      have HSA : Hid (DSt W0 w (wr.alloc (.cells #[.int .i64 y0, .int .i64 y1, .slice qx y2 cx] 31)).drew xs h tr kk c' q cq ∧ Box3 (wr.alloc (.cells #[.int .i64 y0, .int .i64 y1, .slice qx y2 cx] 31)).drew wr.heap.size (.int .i64 y0) (.int .i64 y1) (.slice qx y2 cx)) := by
        have hbA : Below wr.heap.size wr (wr.alloc (.cells #[.int .i64 y0, .int .i64 y1, .slice qx y2 cx] 31)).drew := ((Below.refl _ _).alloc (Nat.le_refl _) _).drew
        obtain ⟨s0, s1, s2, s3, s4⟩ := HS.out
        exact ⟨⟨s0.below hbA (by omega), s1.below hbA (by omega), s2, Below.on s3 hbA, by have := hbA.size; omega⟩, Box3.of_block (t := 31) (heap_alloc_new wr _)⟩
      generalize (wr.alloc (.cells #[.int .i64 y0, .int .i64 y1, .slice qx y2 cx] 31)).drew = wA at HSA ⊢
      rename_i hheld
      clear hheld
      clear b0 b1 b2 b3 r0 r1 r2 r3 h0 d0 d1 d2
      obtain ⟨⟨b0, b1, b2, b3⟩, ⟨r0, r1, r2, r3⟩, _, _, hszA⟩ := HSA.out.1
      obtain ⟨x0, x1, x2, x3⟩ := HSA.out.2
      rw [HJ.out.1] at b0
      rw [HJ.out.2] at b1
      rw [← HM2.out] at b2
      have HNX : Hid (DSt W0 w (((wA.setCell ⟨w.heap.size, 0, none⟩ (.int .i64 y0)).setCell ⟨w.heap.size, 1, none⟩ (.int .i64 y1)).setCell ⟨w.heap.size, 2, none⟩ (.slice qx y2 cx)) xs h tr kk (xs.getD j Cel.none) qx cx) := by
        obtain ⟨s0, s1, s2, s3, s4⟩ := HSA.out.1
        obtain ⟨e0, e1, e2⟩ := box3_set s0.1 s0.2.1 s0.2.2.1 (.int .i64 y0) (.int .i64 y1) (.slice qx y2 cx)
        obtain ⟨z0, z1, z2, z3⟩ := HY.out
        refine ⟨⟨by rw [← z0]; exact e0, by rw [← z1]; exact e1, by rw [← z2]; exact e2, fun i => by rw [World.frozen?_setCell, World.frozen?_setCell, World.frozen?_setCell]; exact s0.2.2.2 i⟩, ((s1.setCell (a := ⟨_, _, none⟩) (by simp) _).setCell (a := ⟨_, _, none⟩) (by simp) _).setCell (a := ⟨_, _, none⟩) (by simp) _, z3, ((s3.setCell (p := ⟨_, _, none⟩) (Nat.le_refl _) _).setCell (p := ⟨_, _, none⟩) (Nat.le_refl _) _).setCell (p := ⟨_, _, none⟩) (Nat.le_refl _) _, by simpa using s4⟩
      have HRE : Hid (varB xs j = false → (WdC xs (xs.getD j Cel.none) ∧ drf xs (xs.getD j Cel.none) = drf xs c) ∧ rkW xs (xs.getD j Cel.none) < rkW xs c') := fun hv => by
        have ho : onB xs c' = true := by simp [onB, HJ.out.1, HJ.out.2, hv]
        have hn := rk_next HG.out HW.out ho
        have hs := drf_step HG.out HW.out ho
        have e1 : c'.2.1.toNat = j := by rw [HJ.out.2]; rfl
        rw [e1] at hn hs
        exact ⟨⟨hn.2, hs.symm.trans HD.out⟩, hn.1⟩
      by_cases q0 : y0 = 0
      · by_cases q1 : y1 = j
        · have hv : varB xs j = true := by rw [HVB.out, q0, q1]; simp
          have HO : Hid (onB xs c' = false) := by show _ = _; simp [onB, HJ.out.1, HJ.out.2, hv]
          have e0 : (y0 == 0) = true := by simp [q0]
          have e1 : (y1 == (j : Int)) = true := by simp [q1]
          clear q0 q1 hv HNX HRE
          go_wp2
          obtain ⟨⟨e0, e1, e2⟩, hfin⟩ := HEND.out wA c' q cq HSA.out.1 HD.out HO.out (.int .i64 0) (.int .i64 j) (.slice q m2 cq) (by rw [HJ.out.1]) (by rw [HJ.out.2]) (by rw [HM2.out])
          exact bodyPost_ret (v := .agg #[.int .i64 0, .int .i64 j, .slice q m2 cq]) (by simp [results, Try.results39, go_sem, e0, e1, e2]) rfl hfin
        · have hv : varB xs j = false := by rw [HVB.out]; simp [q1]
          have HR : Hid _ := HRE.out hv
          have e0 : (y0 == 0) = true := by simp [q0]
          have e1 : (y1 == (j : Int)) = false := by simp [q1]
          clear q0 q1 hv HRE
          go_wp2
          go_roundw
          case rel => exact ⟨xs.getD j Cel.none, qx, cx, HR.out.1.1, HR.out.1.2, HNX⟩
          case measure => rw [HM.out, rkB_box HNX.out.1]; exact HR.out.2
      · have hv : varB xs j = false := by rw [HVB.out]; simp [q0]
        have HR : Hid _ := HRE.out hv
        have e0 : (y0 == 0) = false := by simp [q0]
        clear q0 hv HRE
        go_wp2
        go_roundw
        case rel => exact ⟨xs.getD j Cel.none, qx, cx, HR.out.1.1, HR.out.1.2, HNX⟩
        case measure => rw [HM.out, rkB_box HNX.out.1]; exact HR.out.2
    · have HO : Hid (onB xs c' = false) := by show _ = _; simp [onB, k0]
      have k0' : (c'.1 == 0) = false := by simp [k0]
      go_wp2
      obtain ⟨⟨e0, e1, e2⟩, hfin⟩ := HEND.out wr c' q cq HS.out HD.out HO.out _ _ _ rfl rfl rfl
      exact bodyPost_ret (v := .agg #[.int .i64 c'.1, .int .i64 c'.2.1, .slice q c'.2.2.length cq]) (by simp [results, Try.results39, go_sem, e0, e1, e2]) rfl hfin

end Go.Proofs.Ytfnmoaiejpkocaa

namespace Go.Proofs.Ytfnmoaiejpkocaa
open Go
section
variable {P : Program} {ops : Array Oper} {Q : Exit → Act → World → Prop} {md : Region.Mode} {S : World → Prop}

theorem hTake {i : Nat} {v : Value} {fuel : Nat} {listed : Array Bool} {a : Act} {w : World} (d : Option Tmp) (hd : (ops[i]?).map (·.dst) = some d)
    (hs : Region.noSelect ops = true) (hf : Region.free md ops listed i = true) (hr : (Region.ready md ops listed).contains i = true) (hw : (ops[i]?).map (fun o => Region.wanted o (yielded ops a.tmps)) = some true)
    (hQ : ∀ c a w, Q (.panic c) (a.put d v) w → Q (.panic c) a w) (hrun : ∀ o, ops[i]? = some o → ∀ w, S w → (execOp a.eval o).run P w = .ok (.value v) w) (hS : S w)
    (h : wpAnyH P md ops Q S fuel (listed.setIfInBounds i true) (a.put d v) w) : wpAnyH P md ops Q S (fuel + 1) listed a w := by
  cases hi : ops[i]? with
  | none => simp [hi] at hd
  | some o =>
    have hd' : o.dst = d := by simpa [hi] using hd
    have hw' : Region.wanted o (yielded ops a.tmps) = true := by simpa [hi] using hw
    subst hd'
    exact wpAnyH_take hi hs hf hr hQ (.inl ⟨hw', hrun o hi⟩) hS h
theorem hSkip {i : Nat} {fuel : Nat} {listed : Array Bool} {a : Act} {w : World} (d : Option Tmp) (hd : (ops[i]?).map (·.dst) = some d)
    (hs : Region.noSelect ops = true) (hf : Region.free md ops listed i = true) (hr : (Region.ready md ops listed).contains i = true) (hw : (ops[i]?).map (fun o => Region.wanted o (yielded ops a.tmps)) = some false)
    (hQ : ∀ c a w, Q (.panic c) (a.put d undef) w → Q (.panic c) a w) (hS : S w)
    (h : wpAnyH P md ops Q S fuel (listed.setIfInBounds i true) (a.put d undef) w) : wpAnyH P md ops Q S (fuel + 1) listed a w := by
  cases hi : ops[i]? with
  | none => simp [hi] at hd
  | some o =>
    have hd' : o.dst = d := by simpa [hi] using hd
    have hw' : Region.wanted o (yielded ops a.tmps) = false := by simpa [hi] using hw
    subst hd'
    exact wpAnyH_take hi hs hf hr hQ (.inr ⟨hw', rfl⟩) hS h
theorem hCall {i : Nat} {f : FuncId} {args : Array Value} {v : Value} {T : World → Prop} {fuel : Nat} {listed : Array Bool} {a : Act} {w : World} (d : Option Tmp) (hd : (ops[i]?).map (·.dst) = some d)
    (hr : Region.ready md ops listed = [i]) (hw : (ops[i]?).map (fun o => Region.wanted o (yielded ops a.tmps)) = some true)
    (hrun : ∀ o, ops[i]? = some o → (execOp a.eval o).run P w = .ok (.enter f args) w) (hC : Calls P f args w fun e w' => e = .returned v ∧ T w')
    (hK : ∀ w', T w' → S w' ∧ wpAnyH P md ops Q S fuel (listed.setIfInBounds i true) (a.put d v) w') : wpAnyH P md ops Q S (fuel + 1) listed a w := by
  refine wpAnyH_all hr (by simp) ?_
  intro j hj
  obtain rfl : j = i := by simpa using hj
  cases hi : ops[j]? with
  | none => simp [hi] at hd
  | some o =>
    have hd' : o.dst = d := by simpa [hi] using hd
    have hw' : Region.wanted o (yielded ops a.tmps) = true := by simpa [hi] using hw
    subst hd'
    unfold wpOp
    simp only [hi, hw', if_true, Oper.wp, hrun o hi, Oper.upon]
    refine .inl (hC.mono fun e w'' he => ?_)
    obtain ⟨rfl, ht⟩ := he
    exact hK _ ht
end
end Go.Proofs.Ytfnmoaiejpkocaa

namespace Go.Proofs.Ytfnmoaiejpkocaa
open Go
theorem hStep {P : Program} {ops : Array Oper} {Q : Exit → Act → World → Prop} {md : Region.Mode} {S : World → Prop} {i : Nat} {v : Value} {fuel : Nat} {listed : Array Bool} {a : Act} {w w' : World} (d : Option Tmp) (hd : (ops[i]?).map (·.dst) = some d)
    (hr : Region.ready md ops listed = [i]) (hw : (ops[i]?).map (fun o => Region.wanted o (yielded ops a.tmps)) = some true)
    (hrun : ∀ o, ops[i]? = some o → (execOp a.eval o).run P w = .ok (.value v) w') (hS : S w') (h : wpAnyH P md ops Q S fuel (listed.setIfInBounds i true) (a.put d v) w') : wpAnyH P md ops Q S (fuel + 1) listed a w := by
  refine wpAnyH_all hr (by simp) ?_
  intro j hj
  obtain rfl : j = i := by simpa using hj
  cases hi : ops[j]? with
  | none => simp [hi] at hd
  | some o =>
    have hd' : o.dst = d := by simpa [hi] using hd
    have hw' : Region.wanted o (yielded ops a.tmps) = true := by simpa [hi] using hw
    subst hd'
    unfold wpOp
    simp only [hi, hw', if_true, Oper.wp, hrun o hi, Oper.upon]
    exact .inl ⟨hS, h⟩
theorem hCallE {P : Program} {ops : Array Oper} {Q : Exit → Act → World → Prop} {md : Region.Mode} {S : World → Prop} {i : Nat} {f : FuncId} {args : Array Value} {R : Ending → World → Prop} {fuel : Nat} {listed : Array Bool} {a : Act} {w : World} (d : Option Tmp) (hd : (ops[i]?).map (·.dst) = some d)
    (hr : Region.ready md ops listed = [i]) (hw : (ops[i]?).map (fun o => Region.wanted o (yielded ops a.tmps)) = some true)
    (hrun : ∀ o, ops[i]? = some o → (execOp a.eval o).run P w = .ok (.enter f args) w) (hC : Calls P f args w R) (hK : ∀ u w', R (.returned u) w' → S w' ∧ wpAnyH P md ops Q S fuel (listed.setIfInBounds i true) (a.put d u) w')
    (hP : ∀ ch w', ¬ R (.panicked ch) w') (hO : ∀ w', ¬ R .outgrown w') : wpAnyH P md ops Q S (fuel + 1) listed a w := by
  refine wpAnyH_all hr (by simp) ?_
  intro j hj
  obtain rfl : j = i := by simpa using hj
  cases hi : ops[j]? with
  | none => simp [hi] at hd
  | some o =>
    have hd' : o.dst = d := by simpa [hi] using hd
    have hw' : Region.wanted o (yielded ops a.tmps) = true := by simpa [hi] using hw
    subst hd'
    unfold wpOp
    simp only [hi, hw', if_true, Oper.wp, hrun o hi, Oper.upon]
    refine .inl (hC.mono fun e w'' he => ?_)
    cases e with
    | returned u => exact hK u w'' he
    | panicked ch => exact absurd he (hP ch w'')
    | outgrown => exact absurd he (hO w'')
end Go.Proofs.Ytfnmoaiejpkocaa

