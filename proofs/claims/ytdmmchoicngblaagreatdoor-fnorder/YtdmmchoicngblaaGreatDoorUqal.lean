/- Texts of OrS, Until, UntilR, Base, Base2, Strs, Plain, Plain2, Tab0, LawPlain, Scan1, Scan2, RegB, RegC, RegD, RegE, RegK3, RegT, OrZ. Own work of the verifier. -/
import Derived.Shelf.SlSortCmp.Kit1
import Derived.Sort.WalkA
import Derived.Sort.WalkB2
import Derived.Sort.WalkB12
import Derived.Sort.LotA
import Derived.OrdersHeld
import Derived.OrdersIn
import Derived.RangeFuncCalls
import Derived.TacticsIn
import Derived.Test.YtdmmchoicngblaaGreatDoorUqac
import Derived.Lib.Strings
namespace Go.Proofs.YtdmmchoicngblaaGreatDoor
set_option linter.unusedVariables false
section
open Go Go.RowKit Go.Shelf Go.Lib Go.Sort
variable {α : Type} [Inhabited α]
def CmpB (enc : α → Value) (cf : α → α → Int) (b blk n : Nat) (w0 : World) : Prop :=
 ∀ (W : World) (dk : Array α), dk.size = n → SW enc w0 blk 0 dk W → ∀ x y : α, Calls Tryz.prog 47 #[.map (some b), enc x, enc y] W fun e w' => e = .returned (.int .i64 (cf x y)) ∧ ∃ q os, w' = grow (W.drewN q) os
theorem CmpB.at {enc : α → Value} {cf : α → α → Int} {b blk n : Nat} {w0 W : World} {dk : Array α} (h : CmpB enc cf b blk n w0) (hs : dk.size = n) (S : SW enc w0 blk 0 dk W) (x y : α) (m : Nat) (os : Array Obj) :
  Calls Tryz.prog 47 #[.map (some b), enc x, enc y] (grow (W.drewN m) os) fun e w' => e = .returned (.int .i64 (cf x y)) ∧ ∃ q os', w' = grow ((grow (W.drewN m) os).drewN q) os' := h _ dk hs (S.grown m os) x y
set_option maxHeartbeats 16000000 in
set_option maxRecDepth 1000000 in
theorem insB_any (enc : α → Value) (cf : α → α → Int) (b blk cap n : Nat) (d0 d : Array α) (w0 w : World) (hcmp : CmpB enc cf b blk n w0) (R : Row1 enc w0 blk 0 d0) (hs0 : d0.size = n) (hs : d.size = n) (S : SW enc w0 blk 0 d w) (hn : n ≤ 100000) :
  Calls Tryz.prog 320 #[.slice (some ⟨blk, 0, none⟩) n cap, .int .i64 0, .int .i64 n, .func (.func 47) #[.map (some b)] #[]] w fun e w' => e = .returned (.tuple #[]) ∧ SW enc w0 blk 0 (Sort.insertionSort (ltOf cf) d 0 n) w' := by
 have hcl0 := R.hO.cells; simp only [Value.cells] at hcl0; have hst := R.hO.store Tryz.prog; have eg : ∀ args w, (callFunc 47 args).run Tryz.prog w = .ok (.enter 47 args) w := enters_of Tryz.func47 (by kernel_rfl) rfl
 have mixed : Tryz.prog.follows .mixedOrders = true := by kernel_rfl
 have HC : Hid (CmpB enc cf b blk n w0) := hcmp; have HR : Hid (Row1 enc w0 blk 0 d0) := R; have S0 : Hid (SW enc w0 blk 0 d w) := S; clear S hcmp R
 go_enter Tryz.func320, Tryz.ntmps320
 go_wp2_with fail
 go_loopw [8] (fun vi wr => ∃ (i : Nat) (dk : Array α), vi = .int .i64 i ∧ 0 < i ∧ i ≤ n + 1 ∧ dk.size = n ∧ Hid (SW enc w0 blk 0 dk wr) ∧ Hid (insOuter (ltOf cf) 0 n i dk = insOuter (ltOf cf) 0 n 1 d)) (fun vi _ => n + 1 - (intOf vi).toNat)
 case atStart => exact ⟨1, d, by go_num, by omega, by omega, hs, S0, rfl⟩
 case round =>
  clear S0; obtain ⟨i, dk, rfl, hi0, hin, hsk, S1, HO⟩ := hrel
  by_cases hlt : i < n
  ·have hltz : (i : Int) < (n : Int) := by omega
   go_wp2_with fail
   go_loopw [9] (fun vj WV => ∃ (j : Nat) (dj : Array α), vj = .int .i64 j ∧ j ≤ i ∧ dj.size = n ∧ Hid (SW enc w0 blk 0 dj WV) ∧ Hid (insInner (ltOf cf) 0 j dj = insInner (ltOf cf) 0 i dk)) (fun vj _ => (intOf vj).toNat)
   case atStart => exact ⟨i, dk, rfl, Nat.le_refl _, hsk, S1, rfl⟩
   case round =>
    clear S1; obtain ⟨j, dj, rfl, hji, hsj, SJ, HI⟩ := hrel
    have OUT : Hid (j ≤ 0 ∨ (ltOf cf) dj[j]! dj[j - 1]! = false → insOuter (ltOf cf) 0 n (i + 1) dj = insOuter (ltOf cf) 0 n 1 d) := fun h => by
     rw [← HO.out, insOuter_go _ _ _ _ _ hlt, ← HI.out, insInner_stop _ _ _ _ h]
    by_cases hj0 : 0 < j
    ·obtain ⟨m, rfl⟩ : ∃ m, j = m + 1 := ⟨j - 1, by omega⟩
     have z1 : ((m + 1 : Nat) : Int) = (m : Int) + 1 := by omega
     have z2 : decide ((m : Int) + 1 > 0) = true := decide_eq_true (by omega)
     have z3 : (0 : Int) < (m : Int) + 1 := by omega
     have ea : ((m : Int) + 1).toNat = m + 1 := by omega
     have pa : (0 : Int) ≤ (m : Int) + 1 := by omega
     have ba : (m : Int) + 1 < (n : Int) := by omega
     have ra : IntKind.i64.wrap ((m : Int) + 1) = (m : Int) + 1 := by rw [IntKind.wrap_i64]; omega
     have pc : (0 : Int) ≤ (m : Int) := by omega
     have bc : (m : Int) < (n : Int) := by omega
     have rc : IntKind.i64.wrap (m : Int) = (m : Int) := by rw [IntKind.wrap_i64]; omega
     obtain ⟨x, hx⟩ : ∃ x, x = dj[m + 1]! := ⟨_, rfl⟩
     obtain ⟨y, hy⟩ : ∃ y, y = dj[m]! := ⟨_, rfl⟩
     have la := fun q os => SJ.out.cl HR.out (by omega) (m + 1) (by omega) q os
     have lb := fun q os => SJ.out.cl HR.out (by omega) m (by omega) q os
     simp only [Nat.zero_add] at la lb; rw [← hx] at la; rw [← hy] at lb
     have hc := fun q os => HC.out.at hsj SJ.out x y q os
     have e1 : dj[m + 1 - 1]! = y := by rw [hy]; rfl
     cases hlv : (ltOf cf) x y with
     | true =>
       have hv : cf x y < 0 := of_decide_eq_true hlv; have hd : decide (cf x y < 0) = true := decide_eq_true hv
       have HNX : Hid (insInner (ltOf cf) 0 m (swp dj (m + 1) m) = insInner (ltOf cf) 0 i dk) := by
        show _ = _
        rw [← HI.out, insInner_go (ltOf cf) 0 (m + 1) dj (by omega) (by rw [e1, ← hx]; exact hlv)]; rfl
       have HXY : Hid (x = dj[m + 1]! ∧ y = dj[m]!) := ⟨hx, hy⟩
       clear hx hy e1 hlv OUT HI; go_wp2_with fail
       go_quiet_grown (first | (go_at_fn 47; refine Calls.grown_of (hc _ _)))
       have S2 : Hid (SW enc w0 blk 0 dj (grow (wr.drewN nq) osq)) := SJ.out.grown nq osq; clear la lb hc SJ
       generalize grow (wr.drewN nq) osq = w2 at S2 ⊢
       clear nq osq; go_wp2_with fail
       have S3 : Hid (SW enc w0 blk 0 (swp dj (m + 1) m) ((w2.setCell ⟨blk, m + 1, none⟩ (enc y)).setCell ⟨blk, m, none⟩ (enc x)).drew) := by
        have := S2.out.swapped HR.out (m + 1) m (by omega) (by omega); rw [← HXY.out.1, ← HXY.out.2] at this; simp only [Nat.zero_add] at this; exact this
       have ca := S2.out.c1 HR.out (by omega) (m + 1) (by omega); have cb := S2.out.c1 HR.out (by omega) m (by omega); have fa := S2.out.f1 HR.out (by omega) (m + 1) (by omega); have fb := S2.out.f1 HR.out (by omega) m (by omega); obtain ⟨u, cc⟩ := S2.out.c2 HR.out (by omega) (m + 1) m (by omega) (by omega) (enc y); simp only [Nat.zero_add] at ca cb fa fb cc; rw [← HXY.out.1] at ca; rw [← HXY.out.2] at cb; clear S2; go_wp2_with fail
       go_big_region_o
       clear ca cb fa fb cc
       generalize ((w2.setCell ⟨blk, m + 1, none⟩ (enc y)).setCell ⟨blk, m, none⟩ (enc x)).drew = w3 at S3 ⊢
       go_wp2_with fail; go_roundw
       case rel => exact ⟨m, swp dj (m + 1) m, by first | rfl | go_num, by omega, by rw [size_swp]; exact hsj, S3, HNX⟩
       case measure => simp [intOf]
     | false =>
       have hv : ¬ cf x y < 0 := of_decide_eq_false hlv; have hd : decide (cf x y < 0) = false := decide_eq_false hv; have HO2 : Hid _ := OUT.out (.inr (by rw [e1, ← hx]; exact hlv)); clear hx hy e1 hlv OUT HI; go_wp2_with fail
       go_quiet_grown (first | (go_at_fn 47; refine Calls.grown_of (hc _ _)))
       have S2 : Hid (SW enc w0 blk 0 dj (grow (wr.drewN nq) osq)) := SJ.out.grown nq osq; clear la lb hc SJ
       generalize grow (wr.drewN nq) osq = w2 at S2 ⊢
       clear nq osq; go_wp2_with fail; go_roundw
       case rel => exact ⟨i + 1, dj, by go_num, by omega, by omega, hsj, S2, HO2⟩
       case measure => simp [intOf]; omega
    ·obtain rfl : j = 0 := by omega
     have HO2 : Hid _ := OUT.out (.inl (Nat.le_refl _)); have S2 : Hid (SW enc w0 blk 0 dj wr.drew) := SJ.out.drew; clear OUT HI SJ; go_wp2_with fail
     go_big_region_o
     generalize wr.drew = w2 at S2 ⊢
     go_wp2_with fail; go_roundw
     case rel => exact ⟨i + 1, dj, by go_num, by omega, by omega, hsj, S2, HO2⟩
     case measure => simp [intOf]; omega
  ·have hltz : ¬ (i : Int) < (n : Int) := by omega
   have HFIN : Hid (SW enc w0 blk 0 (Sort.insertionSort (ltOf cf) d 0 n) wr) := by
    show SW _ _ _ _ _ _
    unfold Sort.insertionSort; rw [← HO.out, insOuter_stop _ _ _ _ _ hlt]; exact S1.out
   go_wp2_with fail
   go_end0
   exact ⟨rfl, HFIN.out⟩
end
section
open Go
section
variable {P : Program} {ops : Array Oper} {Q : Exit → Act → World → Prop} {md : Region.Mode} {S : World → Prop} {c : Nat}
def wpAnyU (P : Program) (md : Region.Mode) (ops : Array Oper) (Q : Exit → Act → World → Prop) (S : World → Prop) (c : Nat) : Nat → Array Bool → Act → World → Prop
 | 0, listed, a, w => Region.ready md ops listed = [] ∧ Q .normal a w
 | fuel + 1, listed, a, w =>
   (Region.ready md ops listed = [] → Q .normal a w) ∧
   ∀ i ∈ Region.ready md ops listed, wpOp P ops Q i (fun a' w' => ((listed.setIfInBounds i true).getD c true = false → S w') ∧ wpAnyU P md ops Q S c fuel (listed.setIfInBounds i true) a' w') a w
theorem wpAny_of_until : ∀ (fuel : Nat) (listed : Array Bool) (a : Act) (w : World), wpAnyU P md ops Q S c fuel listed a w → wpAny P md ops Q fuel listed a w
 | 0, _, _, _, h => h
 | fuel + 1, _, _, _, h => ⟨h.1, fun i hi => wpOp_mono (fun a' w' h' => wpAny_of_until fuel _ a' w' h'.2) (h.2 i hi)⟩
def waitsB (md : Region.Mode) (ops : Array Oper) (D : List Nat) (i : Nat) : Bool :=
 !D.contains i && D.all fun d => match ops[d]? with
  | some o => o.after.any fun e => Region.binds md e && (e.on == i || D.contains e.on)
  | none => false
theorem waits_spec {D : List Nat} {i : Nat} (h : waitsB md ops D i = true) : i ∉ D ∧ ∀ d ∈ D, ∃ o, ops[d]? = some o ∧ ∃ e ∈ o.after, Region.binds md e = true ∧ (e.on = i ∨ e.on ∈ D) := by
 simp only [waitsB, Bool.and_eq_true, Bool.not_eq_true', List.all_eq_true] at h; refine ⟨by simpa using h.1, fun d hd => ?_⟩; have h2 := h.2 d hd
 cases ho : ops[d]? with
 | none => simp [ho] at h2
 | some o =>
   simp only [ho, Array.any_eq_true', Bool.and_eq_true, Bool.or_eq_true, beq_iff_eq, List.contains_iff_mem] at h2; obtain ⟨e, he, hb, hx⟩ := h2; exact ⟨o, rfl, e, he, hb, hx⟩
theorem wpAnyU_first {i : Nat} {oi : Oper} {v : Value} {D : List Nat} (hi : ops[i]? = some oi) (hsel : ∀ (j : Nat) (o : Oper) cs b, ops[j]? = some o → o.op ≠ .select cs b)
  (hQ : ∀ c a w, Q (.panic c) (a.put oi.dst v) w → Q (.panic c) a w) (hw : waitsB md ops D i = true) (hcD : c ∈ D) :
  ∀ (fuel : Nat) (listed : Array Bool) (a : Act) (w : World),
    (∀ j oj, ops[j]? = some oj → j ≠ i → listed.getD j true = false → (∀ e ∈ oj.after, Region.binds md e = true → e.on ≠ i) → oi.apart ops oj = true) →
    (∀ d ∈ D, listed.getD d true = false) →
    i ∈ Region.ready md ops listed → YieldsIf P ops S oi v a → S w →
    wpAnyU P md ops Q S c fuel (listed.setIfInBounds i true) (a.put oi.dst v) w → wpAnyU P md ops Q S c (fuel + 1) listed a w := by
 obtain ⟨hiD, hwait⟩ := waits_spec hw
 intro fuel
 induction fuel with
 | zero =>
   intro listed a w _ _ hr hy hS H
   refine ⟨fun h => (by rw [h] at hr; cases hr), fun j hj => ?_⟩
   by_cases hji : j = i
   ·subst hji; exact hy.wpOp hi hS ⟨fun _ => hS, H⟩
   ·have := ready_mono hj hji
    rw [H.1] at this
    cases this
 | succ fuel ih =>
   intro listed a w hfree hD hr hy hS H
   refine ⟨fun h => (by rw [h] at hr; cases hr), fun j hj => ?_⟩
   by_cases hji : j = i
   ·subst hji; exact hy.wpOp hi hS ⟨fun _ => hS, H⟩
   ·have h1 := H.2 j (ready_mono hj hji)
    obtain ⟨hjun, oj, hoj, hall⟩ := mem_ready.1 hj
    have hnot : ∀ e ∈ oj.after, Region.binds md e = true → e.on ≠ i := fun e he hb heq => by
     have h1 := hall e he hb; have h0 := (mem_ready.1 hr).1; rw [heq] at h1
     rcases Nat.lt_or_ge i listed.size with h' | h'
     ·simp [h'] at h0 h1; rw [h0] at h1; cases h1
     ·simp [Array.getElem?_eq_none h'] at h1
    have hjD : j ∉ D := fun hjD => by
     obtain ⟨o, ho, e, he, hb, hx⟩ := hwait j hjD; rw [hoj] at ho
     cases ho
     rcases hx with hx | hx
     ·exact hnot e he hb hx
     ·have h1 := hall e he hb
      have h0 := hD _ hx
      rcases Nat.lt_or_ge e.on listed.size with h' | h'
      ·simp [h'] at h0 h1; rw [h0] at h1; cases h1
      ·simp [Array.getElem?_eq_none h'] at h1
    have hkeep : ∀ d ∈ D, (listed.setIfInBounds j true).getD d true = false := fun d hd => by
     rw [getD_set_ne true (show j ≠ d from fun e => hjD (e ▸ hd))]; exact hD d hd
    have hcj : ((listed.setIfInBounds i true).setIfInBounds j true).getD c true = false := by
     rw [getD_set_ne true (show j ≠ c from fun e => hjD (e ▸ hcD)), getD_set_ne true (show i ≠ c from fun e => hiD (e ▸ hcD))]; exact hD c hcD
    have h2 := wpOp_putIf hoj (hfree j oj hoj hji hjun hnot) (fun cs b => hsel i oi cs b hi) (fun cs b => hsel j oj cs b hoj) hQ hy h1; have hfree' : ∀ k ok, ops[k]? = some ok → k ≠ i → (listed.setIfInBounds j true).getD k true = false →
      (∀ e ∈ ok.after, Region.binds md e = true → e.on ≠ i) → oi.apart ops ok = true := fun k ok hk hki hun hno => by
     refine hfree k ok hk hki ?_ hno
     by_cases hjk : j = k
     ·subst hjk; exact hjun
     ·rw [getD_set_ne true hjk] at hun; exact hun
    refine wpOp_mono (fun a' w' h3 => ⟨fun _ => h3.2.1 hcj, ih (listed.setIfInBounds j true) a' w' hfree' hkeep (ready_mono hr (Ne.symm hji)) h3.1 (h3.2.1 hcj) ?_⟩) h2; rw [Array.setIfInBounds_comm _ _ hji]; exact h3.2.2
theorem wpAnyU_take {i : Nat} {v : Value} {D : List Nat} {fuel : Nat} {listed : Array Bool} {a : Act} {w : World} (d : Option Tmp) (hd : (ops[i]?).map (·.dst) = some d)
  (hs : Region.noSelect ops = true) (hf : Region.free md ops listed i = true) (hr : (Region.ready md ops listed).contains i = true) (hw : waitsB md ops D i = true) (hcD : D.contains c = true) (hD : (D.all fun d => !listed.getD d true) = true)
  (hQ : ∀ c a w, Q (.panic c) (a.put d v) w → Q (.panic c) a w) (hy : ∀ oi, ops[i]? = some oi → YieldsIf P ops S oi v a) (hS : S w)
  (h : wpAnyU P md ops Q S c fuel (listed.setIfInBounds i true) (a.put d v) w) : wpAnyU P md ops Q S c (fuel + 1) listed a w := by
 cases hi : ops[i]? with
 | none => simp [hi] at hd
 | some oi =>
   have hd' : oi.dst = d := by simpa [hi] using hd
   subst hd'; exact wpAnyU_first hi (Region.noSelect_spec hs) hQ hw (by simpa using hcD) fuel listed a w (Region.free_spec hi hf) (fun d hd => by have := List.all_eq_true.1 hD d hd; simpa using this) (by simpa using hr) (hy oi hi) hS h
theorem wpAnyU_all {rs : List Nat} {fuel : Nat} {listed : Array Bool} {a : Act} {w : World} (hr : Region.ready md ops listed = rs) (hne : rs ≠ [])
  (h : ∀ i ∈ rs, wpOp P ops Q i (fun a' w' => ((listed.setIfInBounds i true).getD c true = false → S w') ∧ wpAnyU P md ops Q S c fuel (listed.setIfInBounds i true) a' w') a w) : wpAnyU P md ops Q S c (fuel + 1) listed a w :=
 ⟨fun h0 => absurd (hr ▸ h0) hne, hr ▸ h⟩
theorem wpAnyU_done {listed : Array Bool} {a : Act} {w : World} (hr : Region.ready md ops listed = []) (h : Q .normal a w) :
  ∀ fuel, wpAnyU P md ops Q S c fuel listed a w
 | 0 => ⟨hr, h⟩
 | _ + 1 => ⟨fun _ => h, by rw [hr]; simp⟩
theorem wpOp_value {i : Nat} {v : Value} {a : Act} {w w' : World} {K : Act → World → Prop} (d : Option Tmp) (hd : (ops[i]?).map (·.dst) = some d) (hw : (ops[i]?).map (fun o => Region.wanted o (yielded ops a.tmps)) = some true)
  (hrun : ∀ o, ops[i]? = some o → (execOp a.eval o).run P w = .ok (.value v) w') (hK : K (a.put d v) w') : wpOp P ops Q i K a w := by
 cases hi : ops[i]? with
 | none => simp [hi] at hd
 | some o =>
   have hd' : o.dst = d := by simpa [hi] using hd
   have hw' : Region.wanted o (yielded ops a.tmps) = true := by simpa [hi] using hw
   subst hd'
   unfold wpOp
   simp only [hi, hw', if_true, Oper.wp, hrun o hi, Oper.upon]; exact .inl hK
theorem wpOp_skip {i : Nat} {a : Act} {w w' : World} {K : Act → World → Prop} (d : Option Tmp) (hd : (ops[i]?).map (·.dst) = some d) (hw : (ops[i]?).map (fun o => Region.wanted o (yielded ops a.tmps)) = some true)
  (hrun : ∀ o, ops[i]? = some o → (execOp a.eval o).run P w = .ok .skip w') (hK : K (a.put d undef) w') : wpOp P ops Q i K a w := by
 cases hi : ops[i]? with
 | none => simp [hi] at hd
 | some o =>
   have hd' : o.dst = d := by simpa [hi] using hd
   have hw' : Region.wanted o (yielded ops a.tmps) = true := by simpa [hi] using hw
   subst hd'
   unfold wpOp
   simp only [hi, hw', if_true, Oper.wp, hrun o hi, Oper.upon]; exact .inl hK
end
section
variable {P : Program} {ops : Array Oper} {Q : Exit → Act → World → Prop} {md : Region.Mode} {S : World → Prop} {c : Nat} {l n : Nat}
def noDefer (ops : Array Oper) : Bool := ops.all fun o => match o.op with | .defer _ => false | _ => true
theorem noDefer_spec (h : noDefer ops = true) {i : Nat} {o : Oper} (hi : ops[i]? = some o) : ∀ c, o.op ≠ .defer c := fun c e => by
 have := Array.all_eq_true_iff_forall_mem.1 h o (Array.mem_of_getElem? hi); rw [e] at this
 cases this
theorem upon_wide {o : Oper} {a : Act} {K : Act → World → Prop} {r : Result Next} (h : o.upon P a K Q r) : o.uponIn (Fence.wide.inRound l) n P a K Q r := by
 cases r with
 | ok x w' =>
   cases x <;> simp only [Oper.upon] at h <;> simp only [Oper.uponIn] <;>
    first
     | exact h
     | exact ⟨fun h => (by cases h), CallsIn.inRound l (callsIn_wide.2 h)⟩
     | exact ⟨fun h => (by cases h), fun c cs _ => let ⟨v, w', r, s⟩ := h c cs; ⟨v, w', r, stepsIn_wide.2 s⟩⟩
     | exact h.elim
 | halt x w' => cases x <;> simp only [Oper.upon] at h <;> simp only [Oper.uponIn] <;> first | exact h | exact h.elim
theorem wpOpIn_of (hd : noDefer ops = true) (hQ : ¬ LetsOut Q) {i : Nat} {K : Act → World → Prop} {a : Act} {w : World} (h : wpOp P ops Q i K a w) : wpOpIn (Fence.wide.inRound l) n P ops Q i K a w := by
 unfold wpOp at h
 unfold wpOpIn
 cases hi : ops[i]? with
 | none => simpa [hi] using h
 | some o =>
   simp only [hi] at h ⊢
   split
   ·rename_i hw
    simp only [hw, if_true] at h; refine ⟨fun _ _ => trivial, ?_⟩
    rcases h with h | h
    ·have e : o.semAt (Fence.wide.inRound l).round a.eval = execOp a.eval o := Oper.semAt_some l _ _ (noDefer_spec hd hi)
     rw [e]; exact upon_wide h
    ·exact absurd h.2 hQ
   ·rename_i hw
    simp only [hw] at h; exact ⟨fun _ _ => trivial, by simpa using h⟩
theorem wpAnyIn_of (hd : noDefer ops = true) (hQ : ¬ LetsOut Q) : ∀ (fuel : Nat) (listed : Array Bool) (a : Act) (w : World), wpAny P md ops Q fuel listed a w → wpAnyIn (Fence.wide.inRound l) n P md ops Q fuel listed a w
 | 0, _, _, _, h => h
 | fuel + 1, _, _, _, h => ⟨h.1, fun i hi => wpOpIn_of hd hQ (wpOp_mono (fun a' w' h' => wpAnyIn_of hd hQ fuel _ a' w' h') (h.2 i hi))⟩
theorem wpIn_region_until {id : Nat} {a : Act} {w : World} (hm : P.follows .mixedOrders = true) (hd : noDefer ops = true)
  (h : wpAnyU P .any ops (fun e a w => e = .normal ∧ Q .normal a w) S c ops.size (Array.replicate ops.size false) a { w with drawn := w.drawn + 1 }) : (Code.region id ops true).wpIn (Fence.wide.inRound l) n P Q a w :=
 wpIn_mono (wpIn_region_any hm (wpAnyIn_of hd (fun h => by simp [LetsOut] at h) _ _ _ _ (wpAny_of_until _ _ _ _ h))) (fun e a w h => h.1 ▸ h.2)
theorem wpOp_oper {i : Nat} {a : Act} {w : World} {K : Act → World → Prop} (hw : (ops[i]?).map (fun o => Region.wanted o (yielded ops a.tmps)) = some true) (h : ∀ o, ops[i]? = some o → o.wp P a w K Q) : wpOp P ops Q i K a w := by
 cases hi : ops[i]? with
 | none => simp [hi] at hw
 | some o =>
   have hw' : Region.wanted o (yielded ops a.tmps) = true := by simpa [hi] using hw
   unfold wpOp
   simp only [hi, hw', if_true]; exact .inl (h o hi)
end
end
section
open Go Go.RowKit
end
section
open Go Go.RowKit
end
section
open Go Go.RowKit
end
section
open Go Go.RowKit
theorem grown_of_below {w w' : World} (h : Below w.heap.size w w') (row : Option Nat) : w.grownBy w' row := ⟨h.os, h.tape, h.output, h.size, fun k hk _ => h.block k hk⟩
theorem grown_setCell (w : World) (a : Addr) (v : Value) : w.grownBy (w.setCell a v) (some a.block) := ⟨rfl, rfl, rfl, by simp, fun k _ hk => heap_setCell_other w a k v (fun e => hk (by rw [e]))⟩
end
section
open Go
section
variable {P : Program} {ops : Array Oper} {Q : Exit → Act → World → Prop} {md : Region.Mode} {S : World → Prop}
theorem hBoth {i j : Nat} {fuel : Nat} {listed : Array Bool} {a : Act} {w : World} (hr : Region.ready md ops listed = [i, j])
  (hi : wpOp P ops Q i (fun a' w' => S w' ∧ wpAnyH P md ops Q S fuel (listed.setIfInBounds i true) a' w') a w)
  (hj : wpOp P ops Q j (fun a' w' => S w' ∧ wpAnyH P md ops Q S fuel (listed.setIfInBounds j true) a' w') a w) : wpAnyH P md ops Q S (fuel + 1) listed a w := by
 refine wpAnyH_all hr (by simp) ?_
 intro k hk
 simp only [List.mem_cons, List.not_mem_nil, or_false] at hk
 rcases hk with rfl | rfl
 ·exact hi
 ·exact hj
theorem opStep {i : Nat} {v : Value} {K : Act → World → Prop} {a : Act} {w w' : World} (d : Option Tmp) (hd : (ops[i]?).map (·.dst) = some d) (hw : (ops[i]?).map (fun o => Region.wanted o (yielded ops a.tmps)) = some true)
  (hrun : ∀ o, ops[i]? = some o → (execOp a.eval o).run P w = .ok (.value v) w') (h : K (a.put d v) w') : wpOp P ops Q i K a w := by
 cases hi : ops[i]? with
 | none => simp [hi] at hd
 | some o =>
   have hd' : o.dst = d := by simpa [hi] using hd
   have hw' : Region.wanted o (yielded ops a.tmps) = true := by simpa [hi] using hw
   subst hd'
   unfold wpOp
   simp only [hi, hw', if_true, Oper.wp, hrun o hi, Oper.upon]; exact .inl h
theorem opCall {i : Nat} {f : FuncId} {args : Array Value} {R : Ending → World → Prop} {K : Act → World → Prop} {a : Act} {w : World} (d : Option Tmp) (hd : (ops[i]?).map (·.dst) = some d) (hw : (ops[i]?).map (fun o => Region.wanted o (yielded ops a.tmps)) = some true)
  (hrun : ∀ o, ops[i]? = some o → (execOp a.eval o).run P w = .ok (.enter f args) w) (hC : Calls P f args w R) (hK : ∀ u w', R (.returned u) w' → K (a.put d u) w')
  (hP : ∀ ch w', ¬ R (.panicked ch) w') (hO : ∀ w', ¬ R .outgrown w') : wpOp P ops Q i K a w := by
 cases hi : ops[i]? with
 | none => simp [hi] at hd
 | some o =>
   have hd' : o.dst = d := by simpa [hi] using hd
   have hw' : Region.wanted o (yielded ops a.tmps) = true := by simpa [hi] using hw
   subst hd'
   unfold wpOp
   simp only [hi, hw', if_true, Oper.wp, hrun o hi, Oper.upon]; refine .inl (hC.mono fun e w'' he => ?_)
   cases e with
   | returned u => exact hK u w'' he
   | panicked ch => exact absurd he (hP ch w'')
   | outgrown => exact absurd he (hO w'')
end
section
variable {P : Program} {ops : Array Oper} {Q : Exit → Act → World → Prop} {md : Region.Mode} {S : World → Prop}
def RestQ (Q : Exit → Act → World → Prop) (R : Act → World → Prop) : Exit → Act → World → Prop
 | .normal, a, w => R a w
 | e, a, w => Q e a w
theorem wpOp_rest {R : Act → World → Prop} {i : Nat} {K : Act → World → Prop} {a : Act} {w : World} (h : wpOp P ops (RestQ Q R) i K a w) : wpOp P ops Q i K a w := by
 unfold wpOp at *
 split
 ·rename_i ho; simpa [ho] using h
 ·rename_i o ho
  simp only [ho] at h
  split
  ·rename_i hw
   simp only [hw, if_true] at h
   have hl : LetsOut (RestQ Q R) → LetsOut Q := fun ⟨a, w, h9⟩ => ⟨a, w, h9⟩
   refine h.imp (fun h => ?_) (fun h => ⟨h.1, hl h.2⟩)
   unfold Oper.wp at *
   generalize (execOp a.eval o).run P w = r at *
   cases r with
   | ok n w' =>
     cases n <;> simp only [Oper.upon] at h ⊢ <;>
      first
       | exact h
       | exact Calls.mono h (fun e w'' he => by cases e <;> first | exact he | exact hl he)
   | halt x w' => cases x <;> simp only [Oper.upon] at h ⊢ <;> exact h
  ·rename_i hw; simp only [hw] at h; exact h
end
section
variable {P : Program} {ops : Array Oper} {Q : Exit → Act → World → Prop} {md : Region.Mode} {S : World → Prop}
theorem getD_two {L : Array Bool} {i : Nat} (hi : i < L.size) : L.getD i true = L.getD i false := by simp [hi]
end
def tailB (md : Region.Mode) (ops : Array Oper) (p : Nat) : Bool :=
 decide (ops.size = p + 2) && ((List.range ops.size).all fun i => ((ops[i]?).map (·.after.all fun e => !Region.binds md e || decide (e.on < i))).getD true) &&
 ((List.range p).all fun j => (List.range (p + 1)).any fun i => decide (j < i) && ((ops[i]?).map (·.after.any fun e => Region.binds md e && decide (e.on = j))).getD false) &&
 ((ops[p + 1]?).map (·.after.any fun e => Region.binds md e && decide (e.on = p))).getD false
section
variable {P : Program} {ops : Array Oper} {Q : Exit → Act → World → Prop} {md : Region.Mode} {S : World → Prop}
theorem tailB_parts {p : Nat} (hb : tailB md ops p = true) : ops.size = p + 2 ∧ (∀ i o, ops[i]? = some o → ∀ e ∈ o.after, Region.binds md e = true → e.on < i) ∧ (∀ j, j < p → ∃ i o, j < i ∧ i ≤ p ∧ ops[i]? = some o ∧ ∃ e ∈ o.after, Region.binds md e = true ∧ e.on = j) ∧ ∃ o, ops[p + 1]? = some o ∧ ∃ e ∈ o.after, Region.binds md e = true ∧ e.on = p := by
 simp only [tailB, Bool.and_eq_true, decide_eq_true_eq] at hb; obtain ⟨⟨⟨h1, h2⟩, h3⟩, h4⟩ := hb
 have hany : ∀ (i j : Nat), ((ops[i]?).map (·.after.any fun e => Region.binds md e && decide (e.on = j))).getD false = true → ∃ o, ops[i]? = some o ∧ ∃ e ∈ o.after, Region.binds md e = true ∧ e.on = j := fun i j h => by
  cases ho : ops[i]? with
  | none => rw [ho] at h; cases h
  | some o =>
    rw [ho] at h; simp only [Option.map_some, Option.getD_some, Array.any_eq_true'] at h; obtain ⟨e, he, h⟩ := h; rw [Bool.and_eq_true, decide_eq_true_eq] at h; exact ⟨o, rfl, e, he, h.1, h.2⟩
 refine ⟨h1, fun i o ho e he hbd => ?_, fun j hj => ?_, hany _ _ h4⟩
 ·have hi : i < ops.size := (Array.getElem?_eq_some_iff.1 ho).1
  have := List.all_eq_true.1 h2 i (by simpa using hi); rw [ho] at this; simp only [Option.map_some, Option.getD_some, Array.all_eq_true'] at this; have := this e he; rw [hbd] at this
  simpa using this
 ·have := List.all_eq_true.1 h3 j (by simpa using hj)
  rw [List.any_eq_true] at this; obtain ⟨i, hi, h⟩ := this; rw [Bool.and_eq_true, decide_eq_true_eq] at h; obtain ⟨o, ho, he⟩ := hany _ _ h.2; exact ⟨i, o, h.1, by have := List.mem_range.1 hi; omega, ho, he⟩
def Clo (md : Region.Mode) (ops : Array Oper) (L : Array Bool) : Prop := ∀ i o, ops[i]? = some o → L.getD i false = true → ∀ e ∈ o.after, Region.binds md e = true → L.getD e.on false = true
theorem clo_start (md : Region.Mode) (ops : Array Oper) (n : Nat) : Clo md ops (Array.replicate n false) := fun i o _ h => by
 exfalso
 by_cases hi : i < n <;> simp [hi] at h
theorem Clo.set {L : Array Bool} (h : Clo md ops L) {i : Nat} (hi : i ∈ Region.ready md ops L) : Clo md ops (L.setIfInBounds i true) := fun j o ho hj e he hbd => by
 by_cases e1 : i = j
 ·subst e1
  obtain ⟨_, o', ho', hall⟩ := mem_ready.1 hi; rw [ho] at ho'
  cases ho'
  exact getD_set_true (hall e he hbd)
 ·rw [getD_set_ne false e1] at hj
  exact getD_set_true (h j o ho hj e he hbd)
theorem ready_some2 (h2 : ∀ i o, ops[i]? = some o → ∀ e ∈ o.after, Region.binds md e = true → e.on < i) {L : Array Bool} (hs : L.size = ops.size) : ∀ (k : Nat), k < ops.size → L.getD k true = false → ∃ i, i ∈ Region.ready md ops L := by
 intro k
 induction k using Nat.strongRecOn with
 | ind k ih =>
   intro hk hu
   obtain ⟨o, ho⟩ : ∃ o, ops[k]? = some o := ⟨ops[k], by simp [hk]⟩
   by_cases hall : ∀ e ∈ o.after, Region.binds md e = true → L.getD e.on false = true
   ·exact ⟨k, mem_ready.2 ⟨hu, o, ho, hall⟩⟩
   ·obtain ⟨e, he⟩ := Classical.not_forall.1 hall
    obtain ⟨he1, he2⟩ := Classical.not_imp.1 he; obtain ⟨hbd, hf⟩ := Classical.not_imp.1 he2; have hlt := h2 k o ho e he1 hbd; refine ih e.on hlt (by omega) ?_; rw [getD_two (by omega)]
    simpa using hf
theorem wpAny_tail_step {p : Nat} (hb : tailB md ops p = true) {L : Array Bool} {a : Act} {w : World} (hs : L.size = ops.size) (hc : Clo md ops L) (hp : L.getD p true = false) (hq : L.getD (p + 1) true = false) (f : Nat)
  (H : wpAnyH P md ops (RestQ Q (wpOp P ops Q p (wpOp P ops Q (p + 1) (Q .normal)))) S f ((L.setIfInBounds p true).setIfInBounds (p + 1) true) a w)
  (hother : ∀ i, i ∈ Region.ready md ops L → i ≠ p → i ≠ p + 1 → i ∈ Region.ready md ops ((L.setIfInBounds p true).setIfInBounds (p + 1) true) → wpOp P ops Q i (wpAny P md ops Q (f + 1) (L.setIfInBounds i true)) a w) : wpAny P md ops Q (f + 2) L a w := by
 obtain ⟨h1, h2, h3, oq, hoq, eq, heq, hbq, honq⟩ := tailB_parts hb; refine ⟨fun h0 => ?_, fun i hi => ?_⟩
 ·obtain ⟨i, hi⟩ := ready_some2 h2 hs p (by omega) hp
  rw [h0] at hi; cases hi
 ·have hiq : i ≠ p + 1 := fun e => by
   subst e; obtain ⟨_, o, ho, hall⟩ := mem_ready.1 hi; rw [hoq] at ho
   cases ho
   have := hall eq heq hbq; rw [honq, ← getD_two (by omega), hp] at this
   cases this
  by_cases e : i = p
  ·subst e
   -- all others are listed
   obtain ⟨_, oi, hoi, hall⟩ := mem_ready.1 hi
   have hlisted : ∀ d j, i - j ≤ d → j < i → L.getD j false = true := by
    intro d
    induction d with
    | zero => intro j hd hj; omega
    | succ d ihd =>
      intro j hd hj
      obtain ⟨k, ok, hk1, hk2, hok, e', he', hbd, hon⟩ := h3 j hj
      by_cases ek : k = i
      ·subst ek
       rw [hoi] at hok
       cases hok
       rw [← hon]; exact hall e' he' hbd
      ·rw [← hon]
       exact hc k ok hok (ihd k (by omega) (by omega)) e' he' hbd
   have hrL : Region.ready md ops ((L.setIfInBounds i true).setIfInBounds (i + 1) true) = [] := by
    rw [List.eq_nil_iff_forall_not_mem]
    intro j hj
    obtain ⟨hu, oj, hoj, _⟩ := mem_ready.1 hj; have hjl : j < ops.size := (Array.getElem?_eq_some_iff.1 hoj).1
    by_cases e1 : i + 1 = j
    ·subst e1
     have : i + 1 < L.size := by omega
     simp [this] at hu
    ·rw [getD_set_ne true e1] at hu
     by_cases e2 : i = j
     ·subst e2
      have : i < L.size := by omega
      simp [this] at hu
     ·rw [getD_set_ne true e2, getD_two (by omega), hlisted (i - j) j (Nat.le_refl _) (by omega)] at hu
      cases hu
   have hR : wpOp P ops Q i (wpOp P ops Q (i + 1) (Q .normal)) a w := by
    cases f with
    | zero => exact H.2
    | succ f => exact H.1 hrL
   refine wpOp_mono (fun a' w' h' => ?_) hR; refine ⟨fun h0 => ?_, fun j hj => ?_⟩
   ·obtain ⟨k, hk⟩ := ready_some2 h2 (L := L.setIfInBounds i true) (by simpa using hs) (i + 1) (by omega) (by rw [getD_set_ne true (by omega)]; exact hq)
    rw [h0] at hk; cases hk
   ·obtain rfl : j = i + 1 := by
     obtain ⟨hu, oj, hoj, _⟩ := mem_ready.1 hj; have hjl : j < ops.size := (Array.getElem?_eq_some_iff.1 hoj).1
     by_cases e2 : i = j
     ·subst e2
      have : i < L.size := by omega
      simp [this] at hu
     ·by_cases e3 : j < i
      ·rw [getD_set_ne true e2, getD_two (by omega), hlisted (i - j) j (Nat.le_refl _) e3] at hu
       cases hu
      ·omega
    exact wpOp_mono (fun a'' w'' h'' => wpAny_done hrL h'' f) h'
  ·exact hother i hi e hiq (ready_mono (ready_mono hi e) hiq)
theorem wpAny_tail {p : Nat} (hb : tailB md ops p = true) : ∀ (f : Nat) (L : Array Bool) (a : Act) (w : World), L.size = ops.size → Clo md ops L → L.getD p true = false → L.getD (p + 1) true = false →
  wpAnyH P md ops (RestQ Q (wpOp P ops Q p (wpOp P ops Q (p + 1) (Q .normal)))) S f ((L.setIfInBounds p true).setIfInBounds (p + 1) true) a w → wpAny P md ops Q (f + 2) L a w := by
 obtain ⟨h1, h2, h3, oq, hoq, eq, heq, hbq, honq⟩ := tailB_parts hb
 intro f
 induction f with
 | zero =>
   intro L a w hs hc hp hq H
   exact wpAny_tail_step hb hs hc hp hq 0 H (fun i hi hne hnq hr => by
    rw [H.1] at hr; cases hr)
 | succ f ih =>
   intro L a w hs hc hp hq H
   exact wpAny_tail_step hb hs hc hp hq (f + 1) H (fun i hi hne hnq hr => by
    refine wpOp_mono (fun a' w' h' => ?_) (wpOp_rest (H.2 i hr)); refine ih (L.setIfInBounds i true) a' w' (by simpa using hs) (hc.set hi) (by rw [getD_set_ne true hne]; exact hp) (by rw [getD_set_ne true hnq]; exact hq) ?_; have h9 := h'.2; rw [Array.setIfInBounds_comm _ _ (fun x => hnq x.symm), Array.setIfInBounds_comm _ _ (fun x => hne x.symm)] at h9
    exact h9)
theorem op_valT {i : Nat} {o : Oper} {a : Act} {w w' : World} {v : Value} {K : Act → World → Prop} (hi : ops[i]? = some o) (hg : o.guard = none) (hr : (execOp a.eval o).run P w = .ok (.value v) w') (h : K (a.put o.dst v) w') : wpOp P ops Q i K a w := by
 have hw : Region.wanted o (yielded ops a.tmps) = true := by simp [Region.wanted, hg]
 unfold wpOp
 simp only [hi, hw, if_true]; refine .inl ?_
 unfold Oper.wp
 rw [hr]; exact h
end
end
section
open Go Go.RowKit
theorem op_skipS {P : Program} {ops : Array Oper} {Q : Exit → Act → World → Prop} {i : Nat} {o : Oper} {a : Act} {w w' : World} {K : Act → World → Prop} (hi : ops[i]? = some o) (hg : o.guard = none) (hd : o.dst = none) (hr : (execOp a.eval o).run P w = .ok .skip w') (h : K a w') : wpOp P ops Q i K a w := by
 unfold wpOp
 have hw : Region.wanted o (yielded ops a.tmps) = true := by simp [Region.wanted, hg]
 simp only [hi, hw, if_true]; refine .inl ?_
 unfold Oper.wp
 rw [hr]
 simpa [Oper.upon, hd, Act.put] using h
theorem tail_store {P : Program} {ops : Array Oper} {Q : Exit → Act → World → Prop} {p q : Nat} {o o2 : Oper} {a : Act} {w w' : World} {v : Value} (d : Option Tmp) (hi : ops[p]? = some o) (hd : o.dst = d) (hg : o.guard = none) (hr : (execOp a.eval o).run P w = .ok (.value v) w) (hi2 : ops[q]? = some o2) (hg2 : o2.guard = none) (hd2 : o2.dst = none)
  (hr2 : (execOp (a.put d v).eval o2).run P w = .ok .skip w') (h : Q .normal (a.put d v) w') : RestQ Q (wpOp P ops Q p (wpOp P ops Q q (Q .normal))) .normal a w := by
 subst hd
 show wpOp P ops Q p (wpOp P ops Q q (Q .normal)) a w
 exact op_valT hi hg hr (op_skipS hi2 hg2 hd2 hr2 h)
end
section
variable {α : Type}
def keepB (f : α → α → Bool) : α → List α → List α
 | _, [] => []
 | p, x :: r => if f x p then keepB f x r else x :: keepB f x r
def compB (f : α → α → Bool) : List α → List α
 | [] => []
 | x :: r => x :: keepB f x r
theorem keepB_sub (f : α → α → Bool) : ∀ (r : List α) (p : α), (keepB f p r).Sublist r
 | [], p => List.Sublist.refl _
 | x :: r, p => by
   unfold keepB
   split
   ·exact (keepB_sub f r x).cons x
   ·exact (keepB_sub f r x).cons_cons x
theorem keepB_pw {f : α → α → Bool} {le : α → α → Prop} (hf : ∀ x p, f x p = true → x = p) (hn : ∀ x, f x x = true) (ha : ∀ x y, le x y → le y x → x = y) : ∀ (r : List α) (p : α), (p :: r).Pairwise le → (p :: keepB f p r).Pairwise (fun a b => le a b ∧ a ≠ b)
 | [], p, _ => by simp [keepB]
 | x :: r, p, h => by
   have h0 := List.pairwise_cons.1 h
   unfold keepB
   split
   ·rename_i he
    obtain rfl := hf x p he; exact keepB_pw hf hn ha r x h0.2
   ·rename_i he
    have hx := keepB_pw hf hn ha r x h0.2; refine List.pairwise_cons.2 ⟨fun b hb => ?_, hx⟩
    have hbr : b ∈ x :: r := by
     rcases List.mem_cons.1 hb with rfl | hb
     ·exact List.mem_cons_self ..
     ·exact List.mem_cons_of_mem _ ((keepB_sub f r x).subset hb)
    refine ⟨h0.1 b hbr, fun e => ?_⟩; subst e; have hpx := h0.1 x (List.mem_cons_self ..)
    rcases List.mem_cons.1 hb with e | hb
    ·subst e; exact he (hn _)
    ·have := (List.pairwise_cons.1 h0.2).1 p ((keepB_sub f r x).subset hb)
     have e := ha _ _ hpx this; subst e; exact he (hn _)
theorem compB_sub (f : α → α → Bool) : ∀ l : List α, (compB f l).Sublist l
 | [] => List.Sublist.refl _
 | x :: r => (keepB_sub f r x).cons_cons x
theorem compB_pw {f : α → α → Bool} {le : α → α → Prop} (hf : ∀ x p, f x p = true → x = p) (hn : ∀ x, f x x = true) (ha : ∀ x y, le x y → le y x → x = y) : ∀ l : List α, l.Pairwise le → (compB f l).Pairwise (fun a b => le a b ∧ a ≠ b)
 | [], _ => by simp [compB]
 | x :: r, h => keepB_pw hf hn ha r x h
end
end Go.Proofs.YtdmmchoicngblaaGreatDoor
