/- Texts of Make3, BackF, Until, UntilR, Stk3. Own work of the verifier. -/
import Derived.RangeFuncNested
import Derived.RangeFuncBound
import Derived.RangeFuncCalls
import Derived.RangeFuncLeaves
import Derived.Shelf.Abstract
import Derived.Shelf.RegionOpen
import Derived.WalkKit
import Derived.OwnWalkIn
import Derived.TacticsInMore
import Derived.LoopNIn
import Derived.LoopIn
import Derived.Sort.EveryDepth
import Derived.Test.YtfgaenggbbgboaaGreatDoorUqae
import Derived.OrdersHeld
import Derived.OrdersIn
import Derived.TacticsIn
import Derived.Test.YtfgaenggbbgboaaGreatDoorUqal
namespace Go.Proofs.YtfgaenggbbgboaaGreatDoor
open Go Go.RowKit Go.Shelf
set_option linter.unusedVariables false
attribute [local go_sem] Oper.semAt_some
def BKeep (n₀ Bs : Nat) (A B : World) : Prop := Below n₀ A B ∧ ∀ v, A.cell? ⟨Bs, 0, none⟩ = some v → B.cell? ⟨Bs, 0, none⟩ = some v
theorem BKeep.refl (n₀ Bs : Nat) (A : World) : BKeep n₀ Bs A A := ⟨Below.refl _ _, fun _ h => h⟩
theorem BKeep.trans {n₀ Bs : Nat} {A B C : World} (h : BKeep n₀ Bs A B) (k : BKeep n₀ Bs B C) : BKeep n₀ Bs A C := ⟨h.1.trans k.1, fun v hv => k.2 v (h.2 v hv)⟩
set_option maxHeartbeats 1000000 in
theorem back_in (F : Fence) (n : Nat) (h5 : F.fn 98) (hro : F.round = none) (a : Option Addr) (len cap : Nat) (w : World) :
    CallsIn F n Tryz.prog 98 #[.slice a len cap] w fun e w' => e = .returned (.func (.func 145) #[] #[.pointer (some ⟨w.heap.size, 0, none⟩)]) ∧ w' = w.alloc (.cells #[.slice a len cap] 109) := by
  refine callsIn_of_wp Tryz.func98 rfl h5 ?_ hro
  simp only [Tryz.ntmps98, List.size_toArray, List.length_cons, List.length_nil, Nat.reduceAdd, Nat.reduceSub, Array.replicate_succ, Array.replicate_zero, List.push_toArray, List.append_toArray, List.nil_append, List.cons_append]
  gi_wp2
  go_ret
  exact ⟨rfl, rfl⟩
theorem bKeep_b {n₀ Bs : Nat} {w : World} (hn : n₀ ≤ w.heap.size) (W : World) (l : Nat) (o o' : Obj) (hl : w.heap.size ≤ l) (h : W.heap[l]? = some o) (ho : o.isCells = false) (hw : o.isWalk = false) : BKeep n₀ Bs W (W.putObj l o') :=
  ⟨belowK_b hn W l o o' hl h ho hw, fun v hv => cell_kept hv (grownBy_putObj' W l o') (fun r e => by cases e; exact ⟨_, h, ho⟩)⟩
end Go.Proofs.YtfgaenggbbgboaaGreatDoor

namespace Go.Proofs.YtfgaenggbbgboaaGreatDoor
open Go Go.RowKit Go.Shelf
set_option linter.unusedVariables false
attribute [local go_sem] Oper.semAt_some
def downF (len j : Nat) : List (Fin len) := (List.finRange len).reverse.take j
theorem downF_succ {len m : Nat} (h : m < len) : downF len (len - m) = downF len (len - (m + 1)) ++ [⟨m, h⟩] := by
  unfold downF
  have e : len - m = len - (m + 1) + 1 := by omega
  rw [e, List.take_add_one]
  congr 1
  rw [List.getElem?_reverse (by simp; omega)]
  simp only [List.length_finRange]
  rw [List.getElem?_eq_getElem (by simp; omega)]
  simp only [List.getElem_finRange, Option.toList_some, List.cons.injEq, and_true]
  apply Fin.ext
  simp; omega
theorem downF_length {len m : Nat} (h : m ≤ len) : (downF len m).length = m := by simp [downF, h]
theorem downF_all (len : Nat) : downF len len = (List.finRange len).reverse := by
  unfold downF
  rw [List.take_of_length_le (by simp)]
set_option maxRecDepth 100000 in
set_option maxHeartbeats 2000000 in
theorem backF_in (F : Fence) (n : Nat) (h7 : F.fn 145) (hro : F.round = none) (hn : 1 ≤ n) (l Bs n₀ b len cap : Nat) (zs : List (Nat × Value)) (hlen : len ≤ 2000) (hb : b < n₀) (J Jx : List (Fin len) → World → Prop)
    (hY : ∀ pre (x : Fin len) W, J pre W → pre.length < len → YieldAt F (n - 1) Tryz.prog l #[.int .i64 ((x : Nat) : Int), .iface (zs[(x : Nat)]?.getD (0, .nilIface)).1 (zs[(x : Nat)]?.getD (0, .nilIface)).2] W fun e W' =>
      (e = .returned (.bool true) ∧ J (pre ++ [x]) W' ∧ BKeep n₀ Bs W W') ∨ (e = .returned (.bool false) ∧ Jx (pre ++ [x]) W'))
    (W : World) (hBs : W.cell? ⟨Bs, 0, none⟩ = some (.slice (some ⟨b, 0, none⟩) len cap)) (hc : ∀ j, j < len → W.cell? ⟨b, j, none⟩ = some (.iface (zs[j]?.getD (0, .nilIface)).1 (zs[j]?.getD (0, .nilIface)).2)) (h0 : J [] W) :
    CallsIn F n Tryz.prog 145 #[.func (.yield l) #[] #[], .pointer (some ⟨Bs, 0, none⟩)] W fun e W' => (∃ v, e = .returned v) ∧
      ((∃ ys, ys = downF len len ∧ J ys W') ∨ (∃ pre, True ∧ Jx pre W')) := by
  refine callsIn_of_wp Tryz.func145 rfl h7 ?_ hro
  simp only [Tryz.ntmps145, List.size_toArray, List.length_cons, List.length_nil, Nat.reduceAdd, Nat.reduceSub, Array.replicate_succ, Array.replicate_zero, List.push_toArray, List.append_toArray, List.nil_append, List.cons_append]
  gi_wp2
  gi_loopw [3] (fun i wr => ∃ m : Nat, m ≤ len ∧ i = .int .i64 ((m : Int) - 1) ∧ J (downF len (len - m)) wr ∧ BKeep n₀ Bs W wr)
    (fun i _ => (intOf i + 1).toNat)
  case atStart => exact ⟨len, Nat.le_refl _, by go_num, by rw [Nat.sub_self]; exact h0, BKeep.refl _ _ _⟩
  case round =>
    obtain ⟨m, hm, rfl, hJs, hnx⟩ := hrel
    have hBs' := hnx.2 _ hBs
    cases m with
    | zero =>
      gi_wp2
      go_end0
      exact ⟨⟨_, rfl⟩, .inl ⟨_, rfl, hJs⟩⟩
    | succ m =>
      have hcx := (hnx.1.cell (p := ⟨b, m, none⟩) hb).trans (hc m (by omega))
      have e1 : ((m + 1 : Nat) : Int) - 1 = (m : Int) := by omega
      have e4 := downF_succ (len := len) (m := m) (by omega)
      obtain ⟨fn, tmps, assign, body, hy, hR⟩ := hY _ ⟨m, by omega⟩ wr hJs (by rw [downF_length (by omega)]; omega)
      dsimp only at hy
      rw [← e4] at hR
      rw [e1]
      obtain ⟨tv, etv⟩ : ∃ tv, tv = (zs[m]?.getD (0, .nilIface)).1 := ⟨_, rfl⟩
      obtain ⟨xv, exv⟩ : ∃ xv, xv = (zs[m]?.getD (0, .nilIface)).2 := ⟨_, rfl⟩
      rw [← etv, ← exv] at hy hcx
      have hR' : Hid _ := hR
      clear e1 e4 etv exv
      gi_wp2
      refine hR.mono ?_
      rintro e W3 (⟨rfl, hJ3, hk3⟩ | ⟨rfl, hJx3⟩)
      · gi_wp2
        go_roundw
        case rel => exact ⟨m, by omega, by go_num, hJ3, hnx.trans hk3⟩
        case measure => simp [intOf]
      · gi_wp2
        refine bodyPost_ret (results_none rfl _ _ _) rfl ?_
        exact ⟨⟨_, rfl⟩, .inr ⟨_, trivial, hJx3⟩⟩
theorem backF_stops (F : Fence) (n : Nat) (h7 : F.fn 145) (hro : F.round = none) (hn : 1 ≤ n) (Bs n₀ b len cap : Nat) (zs : List (Nat × Value)) (hlen : len ≤ 2000) (w : World) (hBs : Bs < w.heap.size) (hn₀ : n₀ ≤ w.heap.size) (hb : b < n₀)
    (hcB : w.cell? ⟨Bs, 0, none⟩ = some (.slice (some ⟨b, 0, none⟩) len cap)) (hc : ∀ j, j < len → w.cell? ⟨b, j, none⟩ = some (.iface (zs[j]?.getD (0, .nilIface)).1 (zs[j]?.getD (0, .nilIface)).2)) :
    SeqStopsK F n Tryz.prog 145 #[.pointer (some ⟨Bs, 0, none⟩)] (fun x : Fin len => #[Value.int .i64 ((x : Nat) : Int), Value.iface (zs[(x : Nat)]?.getD (0, .nilIface)).1 (zs[(x : Nat)]?.getD (0, .nilIface)).2]) (BKeep n₀ Bs) (fun ys => ys = downF len len) (fun _ => True) len w := fun l J Jx W hW _ _ hY h0 => by
  exact backF_in F n h7 hro hn l Bs n₀ b len cap zs hlen hb J Jx hY W ((hW.cell (p := ⟨Bs, 0, none⟩) hBs).trans hcB) (fun j hj => (hW.cell (p := ⟨b, j, none⟩) (by show b < _; omega)).trans (hc j hj)) h0
end Go.Proofs.YtfgaenggbbgboaaGreatDoor

namespace Go.Proofs.YtfgaenggbbgboaaGreatDoor
open Go
section
variable {P : Program} {ops : Array Oper} {Q : Exit → Act → World → Prop} {md : Region.Mode} {S : World → Prop} {c : Nat}
def wpAnyU (P : Program) (md : Region.Mode) (ops : Array Oper) (Q : Exit → Act → World → Prop) (S : World → Prop) (c : Nat) : Nat → Array Bool → Act → World → Prop
  | 0, listed, a, w => Region.ready md ops listed = [] ∧ Q .normal a w
  | fuel + 1, listed, a, w =>
    (Region.ready md ops listed = [] → Q .normal a w) ∧
    ∀ i ∈ Region.ready md ops listed, wpOp P ops Q i (fun a' w' => ((listed.setIfInBounds i true).getD c true = false → S w') ∧ wpAnyU P md ops Q S c fuel (listed.setIfInBounds i true) a' w') a w
theorem wpAny_of_until : ∀ (fuel : Nat) (listed : Array Bool) (a : Act) (w : World), wpAnyU P md ops Q S c fuel listed a w → wpAny P md ops Q fuel listed a w
  | 0, _, _, _, h => h
  | fuel + 1, _, _, _, h => ⟨h.1, fun i hi => wpOp_mono (fun a' w' h' => wpAny_of_until fuel _ a' w' h'.2) (h.2 i hi)⟩
def waitsB (md : Region.Mode) (ops : Array Oper) (D : List Nat) (i : Nat) : Bool :=
  !D.contains i && D.all fun d => match ops[d]? with
    | some o => o.after.any fun e => Region.binds md e && (e.on == i || D.contains e.on)
    | none => false
theorem waits_spec {D : List Nat} {i : Nat} (h : waitsB md ops D i = true) : i ∉ D ∧ ∀ d ∈ D, ∃ o, ops[d]? = some o ∧ ∃ e ∈ o.after, Region.binds md e = true ∧ (e.on = i ∨ e.on ∈ D) := by
  simp only [waitsB, Bool.and_eq_true, Bool.not_eq_true', List.all_eq_true] at h
  refine ⟨by simpa using h.1, fun d hd => ?_⟩
  have h2 := h.2 d hd
  cases ho : ops[d]? with
  | none => simp [ho] at h2
  | some o =>
    simp only [ho, Array.any_eq_true', Bool.and_eq_true, Bool.or_eq_true, beq_iff_eq, List.contains_iff_mem] at h2
    obtain ⟨e, he, hb, hx⟩ := h2
    exact ⟨o, rfl, e, he, hb, hx⟩
theorem wpAnyU_first {i : Nat} {oi : Oper} {v : Value} {D : List Nat} (hi : ops[i]? = some oi) (hsel : ∀ (j : Nat) (o : Oper) cs b, ops[j]? = some o → o.op ≠ .select cs b)
    (hQ : ∀ c a w, Q (.panic c) (a.put oi.dst v) w → Q (.panic c) a w) (hw : waitsB md ops D i = true) (hcD : c ∈ D) :
    ∀ (fuel : Nat) (listed : Array Bool) (a : Act) (w : World),
      (∀ j oj, ops[j]? = some oj → j ≠ i → listed.getD j true = false → (∀ e ∈ oj.after, Region.binds md e = true → e.on ≠ i) → oi.apart ops oj = true) →
      (∀ d ∈ D, listed.getD d true = false) →
      i ∈ Region.ready md ops listed → YieldsIf P ops S oi v a → S w →
      wpAnyU P md ops Q S c fuel (listed.setIfInBounds i true) (a.put oi.dst v) w → wpAnyU P md ops Q S c (fuel + 1) listed a w := by
  obtain ⟨hiD, hwait⟩ := waits_spec hw
  intro fuel
  induction fuel with
  | zero =>
    intro listed a w _ _ hr hy hS H
    refine ⟨fun h => (by rw [h] at hr; cases hr), fun j hj => ?_⟩
    by_cases hji : j = i
    · subst hji; exact hy.wpOp hi hS ⟨fun _ => hS, H⟩
    · have := ready_mono hj hji
      rw [H.1] at this
      cases this
  | succ fuel ih =>
    intro listed a w hfree hD hr hy hS H
    refine ⟨fun h => (by rw [h] at hr; cases hr), fun j hj => ?_⟩
    by_cases hji : j = i
    · subst hji; exact hy.wpOp hi hS ⟨fun _ => hS, H⟩
    · have h1 := H.2 j (ready_mono hj hji)
      obtain ⟨hjun, oj, hoj, hall⟩ := mem_ready.1 hj
      have hnot : ∀ e ∈ oj.after, Region.binds md e = true → e.on ≠ i := fun e he hb heq => by
        have h1 := hall e he hb
        have h0 := (mem_ready.1 hr).1
        rw [heq] at h1
        rcases Nat.lt_or_ge i listed.size with h' | h'
        · simp [h'] at h0 h1; rw [h0] at h1; cases h1
        · simp [Array.getElem?_eq_none h'] at h1
      have hjD : j ∉ D := fun hjD => by
        obtain ⟨o, ho, e, he, hb, hx⟩ := hwait j hjD
        rw [hoj] at ho
        cases ho
        rcases hx with hx | hx
        · exact hnot e he hb hx
        · have h1 := hall e he hb
          have h0 := hD _ hx
          rcases Nat.lt_or_ge e.on listed.size with h' | h'
          · simp [h'] at h0 h1; rw [h0] at h1; cases h1
          · simp [Array.getElem?_eq_none h'] at h1
      have hkeep : ∀ d ∈ D, (listed.setIfInBounds j true).getD d true = false := fun d hd => by
        rw [getD_set_ne true (show j ≠ d from fun e => hjD (e ▸ hd))]; exact hD d hd
      have hcj : ((listed.setIfInBounds i true).setIfInBounds j true).getD c true = false := by
        rw [getD_set_ne true (show j ≠ c from fun e => hjD (e ▸ hcD)), getD_set_ne true (show i ≠ c from fun e => hiD (e ▸ hcD))]; exact hD c hcD
      have h2 := wpOp_putIf hoj (hfree j oj hoj hji hjun hnot) (fun cs b => hsel i oi cs b hi) (fun cs b => hsel j oj cs b hoj) hQ hy h1
      have hfree' : ∀ k ok, ops[k]? = some ok → k ≠ i → (listed.setIfInBounds j true).getD k true = false →
          (∀ e ∈ ok.after, Region.binds md e = true → e.on ≠ i) → oi.apart ops ok = true := fun k ok hk hki hun hno => by
        refine hfree k ok hk hki ?_ hno
        by_cases hjk : j = k
        · subst hjk; exact hjun
        · rw [getD_set_ne true hjk] at hun; exact hun
      refine wpOp_mono (fun a' w' h3 => ⟨fun _ => h3.2.1 hcj, ih (listed.setIfInBounds j true) a' w' hfree' hkeep (ready_mono hr (Ne.symm hji)) h3.1 (h3.2.1 hcj) ?_⟩) h2
      rw [Array.setIfInBounds_comm _ _ hji]
      exact h3.2.2
theorem wpAnyU_take {i : Nat} {v : Value} {D : List Nat} {fuel : Nat} {listed : Array Bool} {a : Act} {w : World} (d : Option Tmp) (hd : (ops[i]?).map (·.dst) = some d)
    (hs : Region.noSelect ops = true) (hf : Region.free md ops listed i = true) (hr : (Region.ready md ops listed).contains i = true) (hw : waitsB md ops D i = true) (hcD : D.contains c = true) (hD : (D.all fun d => !listed.getD d true) = true)
    (hQ : ∀ c a w, Q (.panic c) (a.put d v) w → Q (.panic c) a w) (hy : ∀ oi, ops[i]? = some oi → YieldsIf P ops S oi v a) (hS : S w)
    (h : wpAnyU P md ops Q S c fuel (listed.setIfInBounds i true) (a.put d v) w) : wpAnyU P md ops Q S c (fuel + 1) listed a w := by
  cases hi : ops[i]? with
  | none => simp [hi] at hd
  | some oi =>
    have hd' : oi.dst = d := by simpa [hi] using hd
    subst hd'
    exact wpAnyU_first hi (Region.noSelect_spec hs) hQ hw (by simpa using hcD) fuel listed a w (Region.free_spec hi hf) (fun d hd => by have := List.all_eq_true.1 hD d hd; simpa using this) (by simpa using hr) (hy oi hi) hS h
theorem wpAnyU_all {rs : List Nat} {fuel : Nat} {listed : Array Bool} {a : Act} {w : World} (hr : Region.ready md ops listed = rs) (hne : rs ≠ [])
    (h : ∀ i ∈ rs, wpOp P ops Q i (fun a' w' => ((listed.setIfInBounds i true).getD c true = false → S w') ∧ wpAnyU P md ops Q S c fuel (listed.setIfInBounds i true) a' w') a w) : wpAnyU P md ops Q S c (fuel + 1) listed a w :=
  ⟨fun h0 => absurd (hr ▸ h0) hne, hr ▸ h⟩
theorem wpAnyU_done {listed : Array Bool} {a : Act} {w : World} (hr : Region.ready md ops listed = []) (h : Q .normal a w) :
    ∀ fuel, wpAnyU P md ops Q S c fuel listed a w
  | 0 => ⟨hr, h⟩
  | _ + 1 => ⟨fun _ => h, by rw [hr]; simp⟩
theorem wpOp_value {i : Nat} {v : Value} {a : Act} {w w' : World} {K : Act → World → Prop} (d : Option Tmp) (hd : (ops[i]?).map (·.dst) = some d) (hw : (ops[i]?).map (fun o => Region.wanted o (yielded ops a.tmps)) = some true)
    (hrun : ∀ o, ops[i]? = some o → (execOp a.eval o).run P w = .ok (.value v) w') (hK : K (a.put d v) w') : wpOp P ops Q i K a w := by
  cases hi : ops[i]? with
  | none => simp [hi] at hd
  | some o =>
    have hd' : o.dst = d := by simpa [hi] using hd
    have hw' : Region.wanted o (yielded ops a.tmps) = true := by simpa [hi] using hw
    subst hd'
    unfold wpOp
    simp only [hi, hw', if_true, Oper.wp, hrun o hi, Oper.upon]
    exact .inl hK
theorem wpOp_skip {i : Nat} {a : Act} {w w' : World} {K : Act → World → Prop} (d : Option Tmp) (hd : (ops[i]?).map (·.dst) = some d) (hw : (ops[i]?).map (fun o => Region.wanted o (yielded ops a.tmps)) = some true)
    (hrun : ∀ o, ops[i]? = some o → (execOp a.eval o).run P w = .ok .skip w') (hK : K (a.put d undef) w') : wpOp P ops Q i K a w := by
  cases hi : ops[i]? with
  | none => simp [hi] at hd
  | some o =>
    have hd' : o.dst = d := by simpa [hi] using hd
    have hw' : Region.wanted o (yielded ops a.tmps) = true := by simpa [hi] using hw
    subst hd'
    unfold wpOp
    simp only [hi, hw', if_true, Oper.wp, hrun o hi, Oper.upon]
    exact .inl hK
end
end Go.Proofs.YtfgaenggbbgboaaGreatDoor

namespace Go.Proofs.YtfgaenggbbgboaaGreatDoor
open Go
section
variable {P : Program} {ops : Array Oper} {Q : Exit → Act → World → Prop} {md : Region.Mode} {S : World → Prop} {c : Nat} {l n : Nat}
def noDefer (ops : Array Oper) : Bool := ops.all fun o => match o.op with | .defer _ => false | _ => true
theorem noDefer_spec (h : noDefer ops = true) {i : Nat} {o : Oper} (hi : ops[i]? = some o) : ∀ c, o.op ≠ .defer c := fun c e => by
  have := Array.all_eq_true_iff_forall_mem.1 h o (Array.mem_of_getElem? hi)
  rw [e] at this
  cases this
theorem upon_wide {o : Oper} {a : Act} {K : Act → World → Prop} {r : Result Next} (h : o.upon P a K Q r) : o.uponIn (Fence.wide.inRound l) n P a K Q r := by
  cases r with
  | ok x w' =>
    cases x <;> simp only [Oper.upon] at h <;> simp only [Oper.uponIn] <;>
      first
        | exact h
        | exact ⟨fun h => (by cases h), CallsIn.inRound l (callsIn_wide.2 h)⟩
        | exact ⟨fun h => (by cases h), fun c cs _ => let ⟨v, w', r, s⟩ := h c cs; ⟨v, w', r, stepsIn_wide.2 s⟩⟩
        | exact h.elim
  | halt x w' => cases x <;> simp only [Oper.upon] at h <;> simp only [Oper.uponIn] <;> first | exact h | exact h.elim
theorem wpOpIn_of (hd : noDefer ops = true) (hQ : ¬ LetsOut Q) {i : Nat} {K : Act → World → Prop} {a : Act} {w : World} (h : wpOp P ops Q i K a w) : wpOpIn (Fence.wide.inRound l) n P ops Q i K a w := by
  unfold wpOp at h
  unfold wpOpIn
  cases hi : ops[i]? with
  | none => simpa [hi] using h
  | some o =>
    simp only [hi] at h ⊢
    split
    · rename_i hw
      simp only [hw, if_true] at h
      refine ⟨fun _ _ => trivial, ?_⟩
      rcases h with h | h
      · have e : o.semAt (Fence.wide.inRound l).round a.eval = execOp a.eval o := Oper.semAt_some l _ _ (noDefer_spec hd hi)
        rw [e]
        exact upon_wide h
      · exact absurd h.2 hQ
    · rename_i hw
      simp only [hw] at h
      exact ⟨fun _ _ => trivial, by simpa using h⟩
theorem wpAnyIn_of (hd : noDefer ops = true) (hQ : ¬ LetsOut Q) : ∀ (fuel : Nat) (listed : Array Bool) (a : Act) (w : World), wpAny P md ops Q fuel listed a w → wpAnyIn (Fence.wide.inRound l) n P md ops Q fuel listed a w
  | 0, _, _, _, h => h
  | fuel + 1, _, _, _, h => ⟨h.1, fun i hi => wpOpIn_of hd hQ (wpOp_mono (fun a' w' h' => wpAnyIn_of hd hQ fuel _ a' w' h') (h.2 i hi))⟩
theorem wpIn_region_until {id : Nat} {a : Act} {w : World} (hm : P.follows .mixedOrders = true) (hd : noDefer ops = true)
    (h : wpAnyU P .any ops (fun e a w => e = .normal ∧ Q .normal a w) S c ops.size (Array.replicate ops.size false) a { w with drawn := w.drawn + 1 }) : (Code.region id ops true).wpIn (Fence.wide.inRound l) n P Q a w :=
  wpIn_mono (wpIn_region_any hm (wpAnyIn_of hd (fun h => by simp [LetsOut] at h) _ _ _ _ (wpAny_of_until _ _ _ _ h))) (fun e a w h => h.1 ▸ h.2)
theorem wpOp_oper {i : Nat} {a : Act} {w : World} {K : Act → World → Prop} (hw : (ops[i]?).map (fun o => Region.wanted o (yielded ops a.tmps)) = some true) (h : ∀ o, ops[i]? = some o → o.wp P a w K Q) : wpOp P ops Q i K a w := by
  cases hi : ops[i]? with
  | none => simp [hi] at hw
  | some o =>
    have hw' : Region.wanted o (yielded ops a.tmps) = true := by simpa [hi] using hw
    unfold wpOp
    simp only [hi, hw', if_true]
    exact .inl (h o hi)
end
end Go.Proofs.YtfgaenggbbgboaaGreatDoor

namespace Go.Proofs.YtfgaenggbbgboaaGreatDoor
open Go Go.RowKit Go.Shelf
set_option linter.unusedVariables false
attribute [local go_sem] Oper.semAt_some
theorem funEq {s1 s2 : ByteArray} {q1 q2 : Int} (w : World) : (binOp .neq 52 (.agg #[.string s1, .int .i64 q1]) (.agg #[.string s2, .int .i64 q2])).run Tryz.prog w = .ok (.bool (!((s1 == s2) && (q1 == q2)))) w := by
  have hS : Tryz.prog.underlying 52 = some (.struct (Tryz.prog.fieldsOf 52)) := by kernel_rfl
  have hp : Tryz.prog.stoodInHeld 52 = false := by kernel_rfl
  have u1 := Tryz.underlying3
  have u2 := Tryz.underlying9
  have z1 := Tryz.sizeOf3
  have a1 := Tryz.isAgg3
  have z2 := Tryz.sizeOf9
  have a2 := Tryz.isAgg9
  simp only [binOp, Op.equal, Op.maxDepth]
  rw [Sem.run_bind, show (10000 : Nat) = 9999 + 1 from rfl, run_equalIn_struct w 9999 52 _ _ hS hp]
  simp only [Program.fieldsOf, Tryz.underlying52]
  go_simp
  rw [beq_toListBytes]
  by_cases h1 : s1.toList = s2.toList <;> by_cases h2 : q1 = q2 <;> simp [h1, h2]
def OpenK (w : World) (sb so b2 : Nat) (W : World) : Prop :=
  Below w.heap.size w W ∧ w.heap.size + 1 + 1 < W.heap.size ∧ W.heap[w.heap.size]? = some (.cells #[.pointer (some ⟨sb, so, none⟩)] 143) ∧ W.heap[w.heap.size + 1 + 1]? = some (.cells #[.pointer (some ⟨b2, 0, none⟩)] 122)
theorem OpenK.next {w : World} {sb so b2 : Nat} {W W' : World} (h : OpenK w sb so b2 W) (hb : Below W.heap.size W W') : OpenK w sb so b2 W' :=
  ⟨Below.on h.1 hb, Nat.lt_of_lt_of_le h.2.1 hb.size, (hb.block _ (by have := h.2.1; omega)).trans h.2.2.1, (hb.block _ h.2.1).trans h.2.2.2⟩
theorem OpenK.start (w : World) (sb so b2 : Nat) (o : Obj) : OpenK w sb so b2 (((w.alloc (.cells #[.pointer (some ⟨sb, so, none⟩)] 143)).alloc o).alloc (.cells #[.pointer (some ⟨b2, 0, none⟩)] 122)).drew :=
  ⟨((((Below.refl w.heap.size w).alloc (Nat.le_refl _) _).alloc (by simp) _).alloc (by simp; omega) _).drew, by simp, (Below.heap_alloc _ _ _ (by simp; omega)).trans ((Below.heap_alloc _ _ _ (by simp)).trans (heap_alloc_new _ _)), (heap_three _ _ _ _).2⟩
theorem OpenK.cell2 {w : World} {sb so b2 : Nat} {W : World} (h : OpenK w sb so b2 W) : W.cell? ⟨w.heap.size + 1 + 1, 0, none⟩ = some (.pointer (some ⟨b2, 0, none⟩)) := cell_of_row _ _ 0 _ _ _ h.2.2.2
theorem FoIn.tree {w : World} {B : Nat} : ∀ (F : Fo) (vs : List Value), FoIn w B F vs → ∀ j (h : j < (trs F).length), FoIn w B ((trs F)[j]).fo [vs.getD j .nilIface]
  | .nil, vs, _, j, h => by simp [trs] at h
  | .node c k r, vs, ⟨v, vr, e, hn, hr⟩, j, h => by
    subst e
    cases j with
    | zero => exact ⟨v, [], rfl, hn, rfl⟩
    | succ j => simpa [trs] using FoIn.tree r vr hr j (by simpa [trs] using h)
def Tr.none : Tr := (Cel.none, .nil)
def prAt (x : TT) (i : Nat) : TT := ((trs x.1.2).getD i Tr.none, (trs x.2.2).getD i Tr.none)
theorem prAt_all (x : TT) (q : Nat) (h1 : (trs x.1.2).length = q) (h2 : (trs x.2.2).length = q) : (downF q q).map (fun i : Fin q => prAt x (i : Nat)) = argPairs x := by
  rw [downF_all, List.map_reverse, argPairs]
  congr 1
  apply List.ext_getElem
  · simp [h1, h2]
  · intro i a b
    simp [prAt, List.getD, h1, h2]
def ifOf : Value → Nat × Value
  | .iface t x => (t, x)
  | _ => (0, .nilIface)
theorem zs_at {w : World} {B : Nat} {F : Fo} {vs : List Value} (h : FoIn w B F vs) {j : Nat} (hj : j < vs.length) : Value.iface ((vs.map ifOf)[j]?.getD (0, .nilIface)).1 ((vs.map ifOf)[j]?.getD (0, .nilIface)).2 = vs.getD j .nilIface := by
  have hjt : j < (trs F).length := by rw [trs_len, ← FoIn.count _ _ h]; exact hj
  have ht := FoIn.tree F vs h j hjt
  obtain ⟨t, x, e⟩ := FoIn.iface (show FoIn w B (.node (trs F)[j].1 (trs F)[j].2 .nil) [vs.getD j .nilIface] from ht)
  have hg : vs[j]? = some (.iface t x) := by
    rw [List.getD, List.getElem?_eq_getElem hj] at e
    rw [List.getElem?_eq_getElem hj]
    simpa using e
  rw [e, List.getElem?_map, hg]
  rfl
def OInv (W0 : World) (Bt : Nat) (w : World) (B sb so b2 g1 q Bs : Nat) (g : Option Nat) (st : List TT) (x : TT) (pre : List (Fin q)) (W : World) : Prop :=
  (∃ p n c, Stk W0 Bt W B sb so p n c (st ++ pre.map (fun i : Fin q => prAt x (i : Nat))) ∧ (Value.ownBlock (.slice p n c) = g ∨ ∃ k, Value.ownBlock (.slice p n c) = some k ∧ w.heap.size ≤ k)) ∧ Kept2 w W sb so g ∧
  (W.heap[w.heap.size]? = some (.cells #[.pointer (some ⟨sb, so, none⟩)] 143) ∧ W.heap[w.heap.size + 1 + 1]? = some (.cells #[.pointer (some ⟨b2, 0, none⟩)] 122) ∧ W.heap[Bs]? = some (.cells #[.slice (some ⟨g1, 0, none⟩) q q] 109))
theorem kept_cells {W W' : World} {row : Option Nat} (hg : W.grownBy W' row) (hr : ∀ r, row = some r → ∃ o : Obj, W.heap[r]? = some o ∧ o.isCells = false) {k : Nat} {cs : Array Value} {t : TypeId} (h : W.heap[k]? = some (.cells cs t)) : W'.heap[k]? = some (.cells cs t) :=
  (hg.block k (Array.getElem?_eq_some_iff.1 h).1 (fun e => by obtain ⟨o, ho, hc⟩ := hr k e.symm; rw [h] at ho; cases ho; cases hc)).trans h
theorem Stk.kept {W0 : World} {Bt : Nat} {W W' : World} {B sb so : Nat} {p : Option Addr} {n c : Nat} {st : List TT} {row : Option Nat} (h : Stk W0 Bt W B sb so p n c st) (hg : W.grownBy W' row) (hr : ∀ r, row = some r → ∃ o : Obj, W.heap[r]? = some o ∧ o.isCells = false) : Stk W0 Bt W' B sb so p n c st := by
  obtain ⟨vs, hrow, hp⟩ := h.row
  refine ⟨cell_kept h.cell hg hr, (frozen_kept h.cell hg hr).trans h.free, h.len, ⟨vs, ⟨hrow.1, ?_⟩, hp⟩, h.away⟩
  rcases hrow.2 with h' | ⟨g, cap, cur, hv, hB, hh, r⟩
  · exact .inl h'
  · exact .inr ⟨g, cap, cur, hv, hB, kept_cells hg hr hh, r⟩
theorem oInv_own (W0 : World) (Bt : Nat) (w : World) (B sb so b2 g1 q Bs : Nat) (g : Option Nat) (st : List TT) (x : TT) (hsb : sb < w.heap.size) (N : Nat) (hN : w.heap.size ≤ N) : OwnFrom N (OInv W0 Bt w B sb so b2 g1 q Bs g st x) := fun pre A C row ⟨⟨p, n, c, h1, h2⟩, hk, k1, k2, k3⟩ hg hr => by
  have hr' : ∀ r, row = some r → ∃ o : Obj, A.heap[r]? = some o ∧ o.isCells = false := fun r e => (hr r e).2
  refine ⟨⟨p, n, c, h1.kept hg hr', h2⟩, ?_, kept_cells hg hr' k1, kept_cells hg hr' k2, kept_cells hg hr' k3⟩
  have hb : ∀ k, k < w.heap.size → C.heap[k]? = A.heap[k]? := fun k hk' => hg.block k (Nat.lt_of_lt_of_le hk' hk.size) (fun e => by have := (hr k e.symm).1; omega)
  exact ⟨hg.os.trans hk.os, hg.tape.trans hk.tape, hg.output.trans hk.output, Nat.le_trans hk.size hg.size, fun k h1 h2 h3 => (hb k h1).trans (hk.block k h1 h2 h3),
    fun o ho => (World.cell?_of_block (a := ⟨sb, o, none⟩) (hb sb hsb)).trans (hk.cells o ho), fun o => (World.frozen?_of_block (a := ⟨sb, o, none⟩) (hb sb hsb)).trans (hk.frz o)⟩
theorem row_ne {W : World} {B n c k : Nat} {p : Option Addr} {xs : List Value} {cs : Array Value} {t : TypeId} (h : W.ownsRow B 114 2 (.slice p n c) n xs) (hk : W.heap[k]? = some (.cells cs t)) (ht : t ≠ 114) : some k ≠ Value.ownBlock (.slice p n c) := fun e => by
  rcases h.2 with ⟨h', _⟩ | ⟨g, cap, cur, hv, _, hh, _⟩
  · cases h'; cases e
  · cases hv
    cases e
    rw [hk] at hh
    cases hh
    exact ht rfl
theorem Stk.grew {W0 : World} {Bt : Nat} {W w1 : World} {B sb so n c g cap : Nat} {p : Option Addr} {st : List TT} {vs : List (Value × Value)} {v1 v2 : Value} {x : TT} {o : Obj} (h : Stk W0 Bt W B sb so p n c st) (hsb : sb < W.heap.size) (hp : PairsIn W0 Bt st vs) (h1 : FoIn W0 Bt x.1.fo [v1]) (h2 : FoIn W0 Bt x.2.fo [v2])
    (hr : w1.ownsRow B 114 2 (.slice (some ⟨g, 0, none⟩) (n + 1) cap) (n + 1) (flatP vs ++ [v1, v2])) (hg : (W.alloc o).drew.grownBy w1 (Value.ownBlock (.slice p n c))) (hat : Value.ownBlock (.slice p n c) = some g ∨ g = W.heap.size + 1) :
    g ≠ sb ∧ w1.cell? ⟨sb, so, none⟩ = some (.slice p n c) ∧ w1.frozen? ⟨sb, so, none⟩ = false ∧ Stk W0 Bt (w1.setCell ⟨sb, so, none⟩ (.slice (some ⟨g, 0, none⟩) (n + 1) cap)) B sb so (some ⟨g, 0, none⟩) (n + 1) cap (st ++ [x]) := by
  have hne : some sb ≠ Value.ownBlock (.slice p n c) := fun e => by
    cases p with
    | none => cases e
    | some a =>
      obtain ⟨_, hrow, _⟩ := h.row
      rcases hrow.2 with ⟨h', _⟩ | ⟨g', cap', cur, hv, _⟩
      · cases h'
      · cases hv
        cases e
        exact h.away _ rfl rfl
  have hgs : g ≠ sb := fun e => by
    rcases hat with h' | h'
    · exact hne (by rw [h', e])
    · omega
  have hblk : w1.heap[sb]? = W.heap[sb]? := (hg.block sb (by show sb < (W.alloc o).heap.size; simp; omega) hne).trans (Below.heap_alloc _ _ _ hsb)
  have hc : w1.cell? ⟨sb, so, none⟩ = some (.slice p n c) := (World.cell?_of_block (a := ⟨sb, so, none⟩) hblk).trans h.cell
  have hf : w1.frozen? ⟨sb, so, none⟩ = false := (World.frozen?_of_block (a := ⟨sb, so, none⟩) hblk).trans h.free
  refine ⟨hgs, hc, hf, World.cell?_setCell_same' _ _ _ (by rw [hc]; rfl), by rw [World.frozen?_setCell]; exact hf, by rw [h.len]; simp, ⟨vs ++ [(v1, v2)], ?_, hp.append _ _ _ _ ⟨_, [], rfl, h1, h2, rfl⟩⟩, fun g' e => by cases e; exact hgs⟩
  rw [flatP_append]
  exact ownsRow_setCell_other hr (by simpa [Value.ownBlock] using hgs) _
theorem Kept2.round {w W w1 : World} {sb so n c : Nat} {p : Option Addr} {g : Option Nat} {o : Obj} (h : Kept2 w W sb so g) (hsb : sb < w.heap.size) (hown : Value.ownBlock (.slice p n c) = g ∨ ∃ k, Value.ownBlock (.slice p n c) = some k ∧ w.heap.size ≤ k) (hne : some sb ≠ Value.ownBlock (.slice p n c))
    (hg : (W.alloc o).drew.grownBy w1 (Value.ownBlock (.slice p n c))) (u : Value) : Kept2 w (w1.setCell ⟨sb, so, none⟩ u) sb so g := by
  have hs : sb < W.heap.size := Nat.lt_of_lt_of_le hsb h.size
  have hz : W.heap.size ≤ w1.heap.size := Nat.le_trans (by show W.heap.size ≤ (W.alloc o).heap.size; simp) hg.size
  have hb : ∀ k, k < W.heap.size → some k ≠ Value.ownBlock (.slice p n c) → w1.heap[k]? = W.heap[k]? := fun k hk e => (hg.block k (by show k < (W.alloc o).heap.size; simp; omega) e).trans (Below.heap_alloc _ _ _ hk)
  have h1 : Kept2 w w1 sb so g := ⟨hg.os.trans h.os, hg.tape.trans h.tape, hg.output.trans h.output, Nat.le_trans h.size hz, fun k hk a1 a2 => (hb k (Nat.lt_of_lt_of_le hk h.size) (fun e => by
    rcases hown with h' | ⟨k', h', hk'⟩
    · exact a2 (by rw [e, h'])
    · rw [h'] at e; cases e; omega)).trans (h.block k hk a1 a2),
    fun j hj => (World.cell?_of_block (a := ⟨sb, j, none⟩) (hb sb hs hne)).trans (h.cells j hj), fun j => (World.frozen?_of_block (a := ⟨sb, j, none⟩) (hb sb hs hne)).trans (h.frz j)⟩
  exact h1.set u
theorem infoPair : (Tryz.prog.info? 114).map (fun i => (i.zero, i.size, i.bytes)) = some (some (.agg #[.nilIface, .nilIface]), 2, 32) := by kernel_rfl
end Go.Proofs.YtfgaenggbbgboaaGreatDoor

