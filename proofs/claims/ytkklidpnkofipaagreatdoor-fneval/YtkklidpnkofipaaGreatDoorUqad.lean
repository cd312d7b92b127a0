/- Texts of RegC, RegD, RegE, RegK3, RegT, IntG, Ops1, Ops2, Ops3, Or0, OpsV1, OpsV2, OpsV3. Own work of the verifier. -/
import Derived.Test.YtkklidpnkofipaaGreatDoorUqac
import Derived.Test.YtkklidpnkofipaaGreatDoorUqab
import Derived.Lib.BytesEntry
import Derived.Sort.Grow
namespace Go.Proofs.YtkklidpnkofipaaGreatDoor
set_option linter.unusedVariables false
set_option maxRecDepth 100000
section
open Go
section
variable {P : Program} {ops : Array Oper} {Q : Exit → Act → World → Prop} {md : Region.Mode} {S : World → Prop}
def RestQ (Q : Exit → Act → World → Prop) (R : Act → World → Prop) : Exit → Act → World → Prop
 | .normal, a, w => R a w
 | e, a, w => Q e a w
theorem wpOp_rest {R : Act → World → Prop} {i : Nat} {K : Act → World → Prop} {a : Act} {w : World} (h : wpOp P ops (RestQ Q R) i K a w) : wpOp P ops Q i K a w := by
 unfold wpOp at *
 split
 ·rename_i ho; simpa [ho] using h
 ·rename_i o ho
  simp only [ho] at h
  split
  ·rename_i hw
   simp only [hw, if_true] at h
   have hl : LetsOut (RestQ Q R) → LetsOut Q := fun ⟨a, w, h9⟩ => ⟨a, w, h9⟩
   refine h.imp (fun h => ?_) (fun h => ⟨h.1, hl h.2⟩)
   unfold Oper.wp at *
   generalize (execOp a.eval o).run P w = r at *
   cases r with
   | ok n w' =>
     cases n <;> simp only [Oper.upon] at h ⊢ <;>
      first
       | exact h
       | exact Calls.mono h (fun e w'' he => by cases e <;> first | exact he | exact hl he)
   | halt x w' => cases x <;> simp only [Oper.upon] at h ⊢ <;> exact h
  ·rename_i hw; simp only [hw] at h; exact h
end
section
variable {P : Program} {ops : Array Oper} {Q : Exit → Act → World → Prop} {md : Region.Mode} {S : World → Prop}
theorem getD_two {L : Array Bool} {i : Nat} (hi : i < L.size) : L.getD i true = L.getD i false := by simp [hi]
end
def tailB (md : Region.Mode) (ops : Array Oper) (p : Nat) : Bool :=
 decide (ops.size = p + 2) && ((List.range ops.size).all fun i => ((ops[i]?).map (·.after.all fun e => !Region.binds md e || decide (e.on < i))).getD true) &&
 ((List.range p).all fun j => (List.range (p + 1)).any fun i => decide (j < i) && ((ops[i]?).map (·.after.any fun e => Region.binds md e && decide (e.on = j))).getD false) &&
 ((ops[p + 1]?).map (·.after.any fun e => Region.binds md e && decide (e.on = p))).getD false
section
variable {P : Program} {ops : Array Oper} {Q : Exit → Act → World → Prop} {md : Region.Mode} {S : World → Prop}
theorem tailB_parts {p : Nat} (hb : tailB md ops p = true) : ops.size = p + 2 ∧ (∀ i o, ops[i]? = some o → ∀ e ∈ o.after, Region.binds md e = true → e.on < i) ∧ (∀ j, j < p → ∃ i o, j < i ∧ i ≤ p ∧ ops[i]? = some o ∧ ∃ e ∈ o.after, Region.binds md e = true ∧ e.on = j) ∧ ∃ o, ops[p + 1]? = some o ∧ ∃ e ∈ o.after, Region.binds md e = true ∧ e.on = p := by
 simp only [tailB, Bool.and_eq_true, decide_eq_true_eq] at hb; obtain ⟨⟨⟨h1, h2⟩, h3⟩, h4⟩ := hb
 have hany : ∀ (i j : Nat), ((ops[i]?).map (·.after.any fun e => Region.binds md e && decide (e.on = j))).getD false = true → ∃ o, ops[i]? = some o ∧ ∃ e ∈ o.after, Region.binds md e = true ∧ e.on = j := fun i j h => by
  cases ho : ops[i]? with
  | none => rw [ho] at h; cases h
  | some o =>
    rw [ho] at h; simp only [Option.map_some, Option.getD_some, Array.any_eq_true'] at h; obtain ⟨e, he, h⟩ := h; rw [Bool.and_eq_true, decide_eq_true_eq] at h; exact ⟨o, rfl, e, he, h.1, h.2⟩
 refine ⟨h1, fun i o ho e he hbd => ?_, fun j hj => ?_, hany _ _ h4⟩
 ·have hi : i < ops.size := (Array.getElem?_eq_some_iff.1 ho).1
  have := List.all_eq_true.1 h2 i (by simpa using hi); rw [ho] at this; simp only [Option.map_some, Option.getD_some, Array.all_eq_true'] at this; have := this e he; rw [hbd] at this
  simpa using this
 ·have := List.all_eq_true.1 h3 j (by simpa using hj)
  rw [List.any_eq_true] at this; obtain ⟨i, hi, h⟩ := this; rw [Bool.and_eq_true, decide_eq_true_eq] at h; obtain ⟨o, ho, he⟩ := hany _ _ h.2; exact ⟨i, o, h.1, by have := List.mem_range.1 hi; omega, ho, he⟩
def Clo (md : Region.Mode) (ops : Array Oper) (L : Array Bool) : Prop := ∀ i o, ops[i]? = some o → L.getD i false = true → ∀ e ∈ o.after, Region.binds md e = true → L.getD e.on false = true
theorem clo_start (md : Region.Mode) (ops : Array Oper) (n : Nat) : Clo md ops (Array.replicate n false) := fun i o _ h => by
 exfalso
 by_cases hi : i < n <;> simp [hi] at h
theorem Clo.set {L : Array Bool} (h : Clo md ops L) {i : Nat} (hi : i ∈ Region.ready md ops L) : Clo md ops (L.setIfInBounds i true) := fun j o ho hj e he hbd => by
 by_cases e1 : i = j
 ·subst e1
  obtain ⟨_, o', ho', hall⟩ := mem_ready.1 hi; rw [ho] at ho'
  cases ho'
  exact getD_set_true (hall e he hbd)
 ·rw [getD_set_ne false e1] at hj
  exact getD_set_true (h j o ho hj e he hbd)
theorem ready_some2 (h2 : ∀ i o, ops[i]? = some o → ∀ e ∈ o.after, Region.binds md e = true → e.on < i) {L : Array Bool} (hs : L.size = ops.size) : ∀ (k : Nat), k < ops.size → L.getD k true = false → ∃ i, i ∈ Region.ready md ops L := by
 intro k
 induction k using Nat.strongRecOn with
 | ind k ih =>
   intro hk hu
   obtain ⟨o, ho⟩ : ∃ o, ops[k]? = some o := ⟨ops[k], by simp [hk]⟩
   by_cases hall : ∀ e ∈ o.after, Region.binds md e = true → L.getD e.on false = true
   ·exact ⟨k, mem_ready.2 ⟨hu, o, ho, hall⟩⟩
   ·obtain ⟨e, he⟩ := Classical.not_forall.1 hall
    obtain ⟨he1, he2⟩ := Classical.not_imp.1 he; obtain ⟨hbd, hf⟩ := Classical.not_imp.1 he2; have hlt := h2 k o ho e he1 hbd; refine ih e.on hlt (by omega) ?_; rw [getD_two (by omega)]
    simpa using hf
theorem wpAny_tail_step {p : Nat} (hb : tailB md ops p = true) {L : Array Bool} {a : Act} {w : World} (hs : L.size = ops.size) (hc : Clo md ops L) (hp : L.getD p true = false) (hq : L.getD (p + 1) true = false) (f : Nat)
  (H : wpAnyH P md ops (RestQ Q (wpOp P ops Q p (wpOp P ops Q (p + 1) (Q .normal)))) S f ((L.setIfInBounds p true).setIfInBounds (p + 1) true) a w)
  (hother : ∀ i, i ∈ Region.ready md ops L → i ≠ p → i ≠ p + 1 → i ∈ Region.ready md ops ((L.setIfInBounds p true).setIfInBounds (p + 1) true) → wpOp P ops Q i (wpAny P md ops Q (f + 1) (L.setIfInBounds i true)) a w) : wpAny P md ops Q (f + 2) L a w := by
 obtain ⟨h1, h2, h3, oq, hoq, eq, heq, hbq, honq⟩ := tailB_parts hb; refine ⟨fun h0 => ?_, fun i hi => ?_⟩
 ·obtain ⟨i, hi⟩ := ready_some2 h2 hs p (by omega) hp
  rw [h0] at hi; cases hi
 ·have hiq : i ≠ p + 1 := fun e => by
   subst e; obtain ⟨_, o, ho, hall⟩ := mem_ready.1 hi; rw [hoq] at ho
   cases ho
   have := hall eq heq hbq; rw [honq, ← getD_two (by omega), hp] at this
   cases this
  by_cases e : i = p
  ·subst e
   -- all others are listed
   obtain ⟨_, oi, hoi, hall⟩ := mem_ready.1 hi
   have hlisted : ∀ d j, i - j ≤ d → j < i → L.getD j false = true := by
    intro d
    induction d with
    | zero => intro j hd hj; omega
    | succ d ihd =>
      intro j hd hj
      obtain ⟨k, ok, hk1, hk2, hok, e', he', hbd, hon⟩ := h3 j hj
      by_cases ek : k = i
      ·subst ek
       rw [hoi] at hok
       cases hok
       rw [← hon]; exact hall e' he' hbd
      ·rw [← hon]
       exact hc k ok hok (ihd k (by omega) (by omega)) e' he' hbd
   have hrL : Region.ready md ops ((L.setIfInBounds i true).setIfInBounds (i + 1) true) = [] := by
    rw [List.eq_nil_iff_forall_not_mem]
    intro j hj
    obtain ⟨hu, oj, hoj, _⟩ := mem_ready.1 hj; have hjl : j < ops.size := (Array.getElem?_eq_some_iff.1 hoj).1
    by_cases e1 : i + 1 = j
    ·subst e1
     have : i + 1 < L.size := by omega
     simp [this] at hu
    ·rw [getD_set_ne true e1] at hu
     by_cases e2 : i = j
     ·subst e2
      have : i < L.size := by omega
      simp [this] at hu
     ·rw [getD_set_ne true e2, getD_two (by omega), hlisted (i - j) j (Nat.le_refl _) (by omega)] at hu
      cases hu
   have hR : wpOp P ops Q i (wpOp P ops Q (i + 1) (Q .normal)) a w := by
    cases f with
    | zero => exact H.2
    | succ f => exact H.1 hrL
   refine wpOp_mono (fun a' w' h' => ?_) hR; refine ⟨fun h0 => ?_, fun j hj => ?_⟩
   ·obtain ⟨k, hk⟩ := ready_some2 h2 (L := L.setIfInBounds i true) (by simpa using hs) (i + 1) (by omega) (by rw [getD_set_ne true (by omega)]; exact hq)
    rw [h0] at hk; cases hk
   ·obtain rfl : j = i + 1 := by
     obtain ⟨hu, oj, hoj, _⟩ := mem_ready.1 hj; have hjl : j < ops.size := (Array.getElem?_eq_some_iff.1 hoj).1
     by_cases e2 : i = j
     ·subst e2
      have : i < L.size := by omega
      simp [this] at hu
     ·by_cases e3 : j < i
      ·rw [getD_set_ne true e2, getD_two (by omega), hlisted (i - j) j (Nat.le_refl _) e3] at hu
       cases hu
      ·omega
    exact wpOp_mono (fun a'' w'' h'' => wpAny_done hrL h'' f) h'
  ·exact hother i hi e hiq (ready_mono (ready_mono hi e) hiq)
theorem wpAny_tail {p : Nat} (hb : tailB md ops p = true) : ∀ (f : Nat) (L : Array Bool) (a : Act) (w : World), L.size = ops.size → Clo md ops L → L.getD p true = false → L.getD (p + 1) true = false →
  wpAnyH P md ops (RestQ Q (wpOp P ops Q p (wpOp P ops Q (p + 1) (Q .normal)))) S f ((L.setIfInBounds p true).setIfInBounds (p + 1) true) a w → wpAny P md ops Q (f + 2) L a w := by
 obtain ⟨h1, h2, h3, oq, hoq, eq, heq, hbq, honq⟩ := tailB_parts hb
 intro f
 induction f with
 | zero =>
   intro L a w hs hc hp hq H
   exact wpAny_tail_step hb hs hc hp hq 0 H (fun i hi hne hnq hr => by
    rw [H.1] at hr; cases hr)
 | succ f ih =>
   intro L a w hs hc hp hq H
   exact wpAny_tail_step hb hs hc hp hq (f + 1) H (fun i hi hne hnq hr => by
    refine wpOp_mono (fun a' w' h' => ?_) (wpOp_rest (H.2 i hr)); refine ih (L.setIfInBounds i true) a' w' (by simpa using hs) (hc.set hi) (by rw [getD_set_ne true hne]; exact hp) (by rw [getD_set_ne true hnq]; exact hq) ?_; have h9 := h'.2; rw [Array.setIfInBounds_comm _ _ (fun x => hnq x.symm), Array.setIfInBounds_comm _ _ (fun x => hne x.symm)] at h9
    exact h9)
theorem op_valT {i : Nat} {o : Oper} {a : Act} {w w' : World} {v : Value} {K : Act → World → Prop} (hi : ops[i]? = some o) (hg : o.guard = none) (hr : (execOp a.eval o).run P w = .ok (.value v) w') (h : K (a.put o.dst v) w') : wpOp P ops Q i K a w := by
 have hw : Region.wanted o (yielded ops a.tmps) = true := by simp [Region.wanted, hg]
 unfold wpOp
 simp only [hi, hw, if_true]; refine .inl ?_
 unfold Oper.wp
 rw [hr]; exact h
end
end
section
open Go Go.RowKit
theorem op_skipS {P : Program} {ops : Array Oper} {Q : Exit → Act → World → Prop} {i : Nat} {o : Oper} {a : Act} {w w' : World} {K : Act → World → Prop} (hi : ops[i]? = some o) (hg : o.guard = none) (hd : o.dst = none) (hr : (execOp a.eval o).run P w = .ok .skip w') (h : K a w') : wpOp P ops Q i K a w := by
 unfold wpOp
 have hw : Region.wanted o (yielded ops a.tmps) = true := by simp [Region.wanted, hg]
 simp only [hi, hw, if_true]; refine .inl ?_
 unfold Oper.wp
 rw [hr]
 simpa [Oper.upon, hd, Act.put] using h
theorem tail_store {P : Program} {ops : Array Oper} {Q : Exit → Act → World → Prop} {p q : Nat} {o o2 : Oper} {a : Act} {w w' : World} {v : Value} (d : Option Tmp) (hi : ops[p]? = some o) (hd : o.dst = d) (hg : o.guard = none) (hr : (execOp a.eval o).run P w = .ok (.value v) w) (hi2 : ops[q]? = some o2) (hg2 : o2.guard = none) (hd2 : o2.dst = none)
  (hr2 : (execOp (a.put d v).eval o2).run P w = .ok .skip w') (h : Q .normal (a.put d v) w') : RestQ Q (wpOp P ops Q p (wpOp P ops Q q (Q .normal))) .normal a w := by
 subst hd
 show wpOp P ops Q p (wpOp P ops Q q (Q .normal)) a w
 exact op_valT hi hg hr (op_skipS hi2 hg2 hd2 hr2 h)
end
section
open Go Go.RowKit Go.Maps
end
section
open Go Go.RowKit
def OAt (w : World) (b o : Nat) (c : Cel) : Prop :=
 ∃ p cap, w.cell? ⟨b, o + 1, none⟩ = some (.int .i64 c.1) ∧ w.cell? ⟨b, o + 2, none⟩ = some (.int .i64 c.2.1) ∧ w.cell? ⟨b, o, none⟩ = some (.slice p c.2.2.length cap) ∧ BIn w p c.2.2
def OIn (w : World) (p : Option Addr) (cs : List Cel) : Prop :=
 0 < cs.length → ∃ b o, p = some ⟨b, o, none⟩ ∧ ∀ i, i < cs.length → OAt w b (o + i * 3) (cs.getD i Cel.none)
theorem OAt.below {W W' : World} {b o : Nat} {c : Cel} (h : OAt W b o c) (hb : Below W.heap.size W W') : OAt W' b o c := by
 obtain ⟨p, cap, h0, h1, h2, h3⟩ := h; exact ⟨p, cap, (hb.cell (World.block_lt_of_cell? _ _ h0)).trans h0, (hb.cell (World.block_lt_of_cell? _ _ h1)).trans h1, (hb.cell (World.block_lt_of_cell? _ _ h2)).trans h2, h3.below hb⟩
theorem OIn.below {W W' : World} {p : Option Addr} {cs : List Cel} (h : OIn W p cs) (hb : Below W.heap.size W W') : OIn W' p cs := fun hn => by
 obtain ⟨b, o, rfl, hc⟩ := h hn; exact ⟨b, o, rfl, fun i hi => (hc i hi).below hb⟩
theorem OIn.drewN {W : World} {p : Option Addr} {cs : List Cel} (h : OIn W p cs) (m : Nat) : OIn (W.drewN m) p cs := h
theorem infoOp : (Tryz.prog.info? 132).map (fun i => (i.zero, i.size, i.bytes)) = some (some (.agg #[.slice none 0 0, .int .i64 0, .int .i64 0]), 3, 40) := by kernel_rfl
def roV (r : RC) : List Value := [.slice r.2.2.1 r.2.2.2.1 r.2.2.2.2, .int .i64 r.1, .int .i64 r.2.1]
def flatO (rs : List RC) : List Value := rs.flatMap roV
theorem flatO_cons (r : RC) (rs : List RC) : flatO (r :: rs) = .slice r.2.2.1 r.2.2.2.1 r.2.2.2.2 :: .int .i64 r.1 :: .int .i64 r.2.1 :: flatO rs := rfl
theorem flatO_append (a b : List RC) : flatO (a ++ b) = flatO a ++ flatO b := List.flatMap_append
theorem flatO_len : ∀ rs : List RC, (flatO rs).length = rs.length * 3
 | [] => rfl
 | r :: rs => by simp only [flatO_cons, List.length_cons, flatO_len rs]; omega
theorem flatO_at : ∀ (rs : List RC) (i : Nat), i < rs.length → (flatO rs)[i * 3 + 1]? = some (.int .i64 (rs.getD i RC.zero).1) ∧ (flatO rs)[i * 3 + 2]? = some (.int .i64 (rs.getD i RC.zero).2.1) ∧
  (flatO rs)[i * 3]? = some (.slice (rs.getD i RC.zero).2.2.1 (rs.getD i RC.zero).2.2.2.1 (rs.getD i RC.zero).2.2.2.2)
 | [], i, h => by simp at h
 | r :: rs, 0, _ => by simp [flatO_cons]
 | r :: rs, i + 1, h => by
   have := flatO_at rs i (by simpa using h); rw [flatO_cons, show (i + 1) * 3 = (i * 3) + 1 + 1 + 1 by omega, show (i * 3) + 1 + 1 + 1 + 1 = (i * 3 + 1) + 1 + 1 + 1 by omega, show (i * 3) + 1 + 1 + 1 + 2 = (i * 3 + 2) + 1 + 1 + 1 by omega]
   simpa using this
def OwnO (w : World) (B : Nat) (p : Option Addr) (n c : Nat) (cs : List Cel) : Prop :=
 n = cs.length ∧ ∃ rs : List RC, rs.length = cs.length ∧ w.ownsRow B 132 3 (.slice p n c) n (flatO rs) ∧ (∀ i, i < cs.length → Fits w B (rs.getD i RC.zero) (cs.getD i Cel.none)) ∧ ApartC p rs
theorem OwnO.nil (w : World) (B : Nat) : OwnO w B none 0 0 [] := ⟨rfl, [], rfl, World.ownsRow_nil _ _ _ _, fun i h => by simp at h, fun i h => by simp at h, fun i j h => by simp at h⟩
theorem OwnO.oin {w : World} {B : Nat} {p : Option Addr} {n c : Nat} {cs : List Cel} (h : OwnO w B p n c cs) : OIn w p cs := fun hn => by
 obtain ⟨rfl, rs, hl, hr, hf, _⟩ := h; obtain ⟨g, cap, hv, hb, hg⟩ := hr.form hn; simp only [Value.slice.injEq, true_and] at hv; obtain ⟨rfl, rfl⟩ := hv; refine ⟨g, 0, rfl, fun i hi => ?_⟩; obtain ⟨f0, f1, f2⟩ := hf i hi; obtain ⟨a0, a1, a2⟩ := flatO_at rs i (by omega); rw [Nat.zero_add]; refine ⟨(rs.getD i RC.zero).2.2.1, (rs.getD i RC.zero).2.2.2.2, ?_, ?_, ?_, f2.bin⟩
 ·rw [hr.cellAt _ (by omega), a0, f0]
 ·rw [hr.cellAt _ (by omega), a1, f1]
 ·rw [hr.cellAt _ (by omega), a2, f2.len]
theorem OwnO.below {w w' : World} {B : Nat} {p : Option Addr} {n c : Nat} {cs : List Cel} (h : OwnO w B p n c cs) (hb : Below w.heap.size w w') : OwnO w' B p n c cs := by
 obtain ⟨rfl, rs, hl, hr, hf, ha⟩ := h; refine ⟨rfl, rs, hl, ⟨hr.1, ?_⟩, fun i hi => ⟨(hf i hi).1, (hf i hi).2.1, (hf i hi).2.2.below hb⟩, ha⟩
 rcases hr.2 with h' | ⟨g, cap, cur, hv, hB, hg, r⟩
 ·exact .inl h'
 ·exact .inr ⟨g, cap, cur, hv, hB, (hb.block g (Array.getElem?_eq_some_iff.1 hg).1).trans hg, r⟩
theorem OwnO.mono {w : World} {B B' : Nat} {p : Option Addr} {n c : Nat} {cs : List Cel} (h : OwnO w B p n c cs) (hB : B' ≤ B) : OwnO w B' p n c cs := by
 obtain ⟨hn, rs, hl, hr, hf, ha⟩ := h; exact ⟨hn, rs, hl, ownsRow_down hr hB, fun i hi => ⟨(hf i hi).1, (hf i hi).2.1, (hf i hi).2.2.mono hB⟩, ha⟩
def orI (x y : Int) : Int := if x ≠ 0 then x else y
theorem or_any (b : Nat) (x y : Int) (w : World) (h0 : w.cell? ⟨b, 0, none⟩ = some (.int .i64 x)) (h1 : w.cell? ⟨b, 1, none⟩ = some (.int .i64 y)) : Calls Tryz.prog 162 #[.slice (some ⟨b, 0, none⟩) 2 2] w fun e w' => e = .returned (.int .i64 (orI x y)) ∧ w' = w := by
 have FIN : Hid (∀ c, c = orI x y → Ending.returned (.int .i64 c) = .returned (.int .i64 (orI x y))) := fun c h => ret_int h
 go_enter Tryz.func162, Tryz.ntmps162
 go_wp2_with fail
 go_loop [8] (fun i => i = .int .i64 0 ∨ (i = .int .i64 1 ∧ x = 0) ∨ (i = .int .i64 2 ∧ x = 0 ∧ y = 0)) (fun i => 2 - (intOf i).toNat)
 case atStart => exact .inl rfl
 case round =>
  rcases hrel with rfl | ⟨rfl, rfl⟩ | ⟨rfl, rfl, rfl⟩
  ·by_cases hx : x = 0
   ·subst hx
    go_wp2_with fail; go_roundw
    case rel => exact .inr (.inl ⟨by go_num, by simp⟩)
    case measure => simp [intOf]
   ·have HF : Hid _ := FIN.out x (by rw [orI, if_pos hx])
    go_wp2_with fail; go_ret; exact ⟨HF.out, rfl⟩
  ·by_cases hx : y = 0
   ·subst hx
    go_wp2_with fail; go_roundw
    case rel => exact .inr (.inr ⟨by go_num, by simp⟩)
    case measure => simp [intOf]
   ·have HF : Hid _ := FIN.out y (by rw [orI, if_neg (by simp)])
    go_wp2_with fail; go_ret; exact ⟨HF.out, rfl⟩
  ·go_wp2_with fail
   go_ret; exact ⟨rfl, rfl⟩
theorem pair_new (W : World) (a b : Value) (t : TypeId) : (W.alloc (.cells #[a, b] t)).cell? ⟨W.heap.size, 0, none⟩ = some a ∧ (W.alloc (.cells #[a, b] t)).cell? ⟨W.heap.size, 1, none⟩ = some b :=
 ⟨by simp [World.cell?_alloc_new], by simp [World.cell?_alloc_new]⟩
def resB (s : ByteArray) : Bool := s.toList == [91, 93] || s.toList == [123, 125] || s.toList == [124]
def preB (t : Int) : Bool := t == 3 || t == 4
def srt (t : Int) : Int := if preB t then 0 else 1
theorem isReserved_any (s : ByteArray) (w : World) : Calls Tryz.prog 203 #[.string s] w fun e w' => e = .returned (.bool (resB s)) ∧ w' = w := by
 cases h1 : (s.toList == [91, 93]) <;> cases h2 : (s.toList == [123, 125]) <;> cases h3 : (s.toList == [124])
 all_goals
  have HF : Hid (∀ b, b = resB s → Ending.returned (.bool b) = .returned (.bool (resB s))) := fun b h => ret_bool h
  have HR : Hid (resB s = (s.toList == [91, 93] || s.toList == [123, 125] || s.toList == [124])) := rfl; rw [h1, h2, h3] at HR
  go_enter Tryz.func203, Tryz.ntmps203
  go_wp2_with fail; go_ret; exact ⟨HF.out _ HR.out.symm, rfl⟩
theorem sortOf_any (t : Int) (w : World) : Calls Tryz.prog 159 #[.int .i64 t] w fun e w' => e = .returned (.int .i64 (srt t)) ∧ w' = w := by
 have HR : Hid (srt t = if (t == 3 || t == 4) then 0 else 1) := rfl
 cases h1 : (t == 3) <;> cases h2 : (t == 4)
 all_goals
  rw [h1, h2] at HR
  have HF : Hid (∀ b, b = srt t → Ending.returned (.int .i64 b) = .returned (.int .i64 (srt t))) := fun b h => ret_int h
  go_enter Tryz.func159, Tryz.ntmps159
  go_wp2_with fail; go_ret; exact ⟨HF.out _ HR.out.symm, rfl⟩
theorem isOpName_any (p : Option Addr) (m cap : Nat) (w : World) (hm : m ≤ 1000000000) : Calls Tryz.prog 201 #[.slice p m cap] w fun e w' => e = .returned (.bool (decide (1 ≤ m ∧ m ≤ 100))) ∧ w' = w := by
 by_cases h1 : 1 ≤ m
 ·by_cases h2 : m ≤ 100
  ·have e : decide (1 ≤ m ∧ m ≤ 100) = true := by simp [h1, h2]
   have h2' : decide ((m : Int) ≤ 100) = true := by simp; omega
   rw [e]; clear e
   go_enter Tryz.func201, Tryz.ntmps201
   go_wp2_with fail; go_ret; exact ⟨rfl, rfl⟩
  ·have e : decide (1 ≤ m ∧ m ≤ 100) = false := by simp; omega
   have h2' : decide ((m : Int) ≤ 100) = false := by simp; omega
   rw [e]; clear e
   go_enter Tryz.func201, Tryz.ntmps201
   go_wp2_with fail; go_ret; exact ⟨rfl, rfl⟩
 ·have e : decide (1 ≤ m ∧ m ≤ 100) = false := by simp; omega
  rw [e]; clear e
  go_enter Tryz.func201, Tryz.ntmps201
  go_wp2_with fail; go_ret; exact ⟨rfl, rfl⟩
theorem isOpType_any (t : Int) (w : World) : Calls Tryz.prog 202 #[.int .i64 t] w fun e w' => e = .returned (.bool (decide (0 ≤ t ∧ t ≤ 6))) ∧ w' = w := by
 by_cases h1 : 0 ≤ t
 ·by_cases h2 : t ≤ 6
  ·have e : decide (0 ≤ t ∧ t ≤ 6) = true := by simp [h1, h2]
   rw [e]; clear e
   go_enter Tryz.func202, Tryz.ntmps202
   go_wp2_with fail; go_ret; exact ⟨rfl, rfl⟩
  ·have e : decide (0 ≤ t ∧ t ≤ 6) = false := by simp; omega
   rw [e]; clear e
   go_enter Tryz.func202, Tryz.ntmps202
   go_wp2_with fail; go_ret; exact ⟨rfl, rfl⟩
 ·have e : decide (0 ≤ t ∧ t ≤ 6) = false := by simp; omega
  rw [e]; clear e
  go_enter Tryz.func202, Tryz.ntmps202
  go_wp2_with fail; go_ret; exact ⟨rfl, rfl⟩
theorem isNaNo_any (x : Int) (w : World) : Calls Tryz.prog 230 #[.int .i64 x] w fun e w' => e = .returned (.bool false) ∧ w' = w := by
 go_enter Tryz.func230, Tryz.ntmps230
 go_wp2_with fail; go_ret; exact ⟨rfl, rfl⟩
theorem compareO_any (x y : Int) (w : World) : Calls Tryz.prog 164 #[.int .i64 x, .int .i64 y] w fun e w' => e = .returned (.int .i64 (cmpI x y)) ∧ w' = w := by
 have H1 := isNaNo_any x w; have H2 := isNaNo_any y w
 have FIN : Hid (∀ c, c = cmpI x y → Ending.returned (.int .i64 c) = .returned (.int .i64 (cmpI x y))) := fun c h => ret_int h
 by_cases h1 : x < y
 rotate_right
 case' _ =>
  by_cases h2 : y < x
  rotate_right
  case' _ =>
   have HF : Hid _ := FIN.out 0 (by rw [cmpI, if_neg h1, if_neg h2])
  rotate_right
  case' _ =>
   have HF : Hid _ := FIN.out 1 (by rw [cmpI, if_neg h1, if_pos h2])
 rotate_right
 case' _ =>
  have HF : Hid _ := FIN.out (-1) (by rw [cmpI, if_pos h1])
 all_goals
  go_enter Tryz.func164, Tryz.ntmps164
  go_wp2_with fail; refine H1.mono ?_; rintro e w1 ⟨rfl, rfl⟩; go_wp2_with fail; refine H2.mono ?_; rintro e w1 ⟨rfl, rfl⟩; go_wp2_with fail; go_ret; exact ⟨HF.out, rfl⟩
theorem compareBytes_eq : ∀ l m : List UInt8, Lib.compareBytes l m = if Op.bytesLess l m then -1 else if l == m then 0 else 1
 | [], [] => by simp [Lib.compareBytes, Op.bytesLess]
 | [], _ :: _ => by simp [Lib.compareBytes, Op.bytesLess]
 | _ :: _, [] => by simp [Lib.compareBytes, Op.bytesLess]
 | a :: x, b :: y => by
   have ih := compareBytes_eq x y; simp only [Lib.compareBytes, Op.bytesLess, ih]
   by_cases h1 : a < b
   ·simp [h1]
   ·by_cases h2 : b < a
    ·have hne : ¬ a = b := fun e => by subst e; exact h1 h2
     simp [h1, h2, hne]
    ·have e : a = b := by rw [u8_lt] at h1 h2; rw [u8_eq]; omega
     subst e
     simp
theorem run_bytesOf {w : World} {p : Option Addr} {xs : List Int} (h : BIn w p xs) (m cap : Nat) (hm : m = xs.length) : (Extern.Bytes.bytesOf (.slice p m cap)).run Tryz.prog w = .ok (strOfNums xs) w := by
 subst hm
 by_cases hn : 0 < xs.length
 ·obtain ⟨b, o, rfl, hc⟩ := h hn
  have hl := Lib.run_loadBytesX (P := Tryz.prog) w xs ⟨b, o, none⟩ .empty (fun j x hj => by
   have hjl : j < xs.length := (List.getElem?_eq_some_iff.1 hj).1
   have e : (⟨b, o, none⟩ : Addr).add j = ⟨b, o + j, none⟩ := by unfold Addr.add; split <;> simp_all
   rw [e, hc j hjl, List.getD_eq_getElem?_getD, hj]
   rfl)
  simp only [Extern.Bytes.bytesOf]; rw [hl]
  congr 1
  apply ByteArray.ext
  show (#[] : Array UInt8) ++ (Lib.bytesOf xs).toArray = (strOfNums xs).data
  simp [Lib.bytesOf, strOfNums]
 ·obtain rfl : xs = [] := by cases xs with | nil => rfl | cons a r => simp at hn
  cases p with
  | none => simp [Extern.Bytes.bytesOf]; rfl
  | some a => simp [Extern.Bytes.bytesOf, Extern.Bytes.loadBytes]; rfl
theorem run_compareS {w : World} {p q : Option Addr} {xs ys : List Int} (hx : BIn w p xs) (hy : BIn w q ys) (m n c1 c2 : Nat) (hm : m = xs.length) (hn : n = ys.length) :
  (Extern.BytealgCompare.compare #[.slice p m c1, .slice q n c2]).run Tryz.prog w = .ok (.int .i64 (cmpS (strOfNums xs) (strOfNums ys))) w := by
 change Sem.run Tryz.prog (do pure (goInt (Extern.BytealgCompare.cmp (← Extern.Bytes.bytesOf (.slice p m c1)) (← Extern.Bytes.bytesOf (.slice q n c2))))) w = _
 simp only [Sem.run_bind, run_bytesOf hx m c1 hm, run_bytesOf hy n c2 hn, Sem.run_pure, Result.andThen]; rw [Lib.cmp_eq, compareBytes_eq, cmpS, ByteArray.toList_eq, ByteArray.toList_eq]
 rfl
theorem bytesCompare_any (p q : Option Addr) (m n c1 c2 : Nat) (xs ys : List Int) (w : World) (hm : m = xs.length) (hn : n = ys.length) (hx : BIn w p xs) (hy : BIn w q ys) :
  Calls Tryz.prog 163 #[.slice p m c1, .slice q n c2] w fun e w' => e = .returned (.int .i64 (cmpS (strOfNums xs) (strOfNums ys))) ∧ w' = w := by
 have hr := run_compareS hx hy m n c1 c2 hm hn; clear hx hy hm hn
 generalize cmpS (strOfNums xs) (strOfNums ys) = r at hr ⊢
 go_enter Tryz.func163, Tryz.ntmps163
 go_wp2_with fail; rw [run_callFunc_extern Tryz.func229 (by kernel_rfl) (by kernel_rfl) (by kernel_rfl) (e := Extern.BytealgCompare.compare) (by kernel_rfl), hr]; simp only [Result.andThen]; rw [Oper.upon_value]; go_wp2_with fail; go_ret; exact ⟨rfl, rfl⟩
end
section
open Go Go.RowKit Go.Sort
def opCmp (x y : Cel) : Int := orI (cmpS (strOfNums x.2.2) (strOfNums y.2.2)) (cmpI (srt x.2.1) (srt y.2.1))
set_option maxHeartbeats 1000000 in
theorem compareOps_any (k1 n1 k2 n2 : Int) (p q : Option Addr) (m1 m2 c1 c2 : Nat) (xs ys : List Int) (w : World) (hl1 : m1 = xs.length) (hl2 : m2 = ys.length) (hx : BIn w p xs) (hy : BIn w q ys) :
  Calls Tryz.prog 66 #[.agg #[.slice p m1 c1, .int .i64 k1, .int .i64 n1], .agg #[.slice q m2 c2, .int .i64 k2, .int .i64 n2]] w fun e w' => e = .returned (.int .i64 (opCmp (k1, n1, xs) (k2, n2, ys))) ∧ ∃ q os', w' = grow (w.drewN q) os' := by
 have hC : ∀ W, Below w.heap.size w W → Calls Tryz.prog 163 #[.slice p m1 c1, .slice q m2 c2] W fun e w' => e = .returned (.int .i64 (cmpS (strOfNums xs) (strOfNums ys))) ∧ w' = W := fun W hW => bytesCompare_any p q m1 m2 c1 c2 xs ys W hl1 hl2 (hx.below hW) (hy.below hW)
 have hS1 := fun W => sortOf_any n1 W
 have hS2 := fun W => sortOf_any n2 W
 have hI := fun W => compareO_any (srt n1) (srt n2) W
 rw [opCmp]; simp only
 generalize cmpS (strOfNums xs) (strOfNums ys) = cs at hC ⊢
 generalize srt n1 = s1 at hS1 hI ⊢
 generalize srt n2 = s2 at hS2 hI ⊢
 generalize cmpI s1 s2 = ci at hI ⊢
 have hO : ∀ (b : Nat) (W : World), W.cell? ⟨b, 0, none⟩ = some (.int .i64 cs) → W.cell? ⟨b, 1, none⟩ = some (.int .i64 ci) → Calls Tryz.prog 162 #[.slice (some ⟨b, 0, none⟩) 2 2] W fun e w' => e = .returned (.int .i64 (orI cs ci)) ∧ w' = W := fun b W h0 h1 => or_any b cs ci W h0 h1
 generalize orI cs ci = co at hO ⊢
 have hb : Below w.heap.size w ((w.alloc (.cells #[.slice p m1 c1, .int .i64 k1, .int .i64 n1] 132)).alloc (.cells #[.slice q m2 c2, .int .i64 k2, .int .i64 n2] 132)) := ((Below.refl _ _).alloc (Nat.le_refl _) _).alloc (by simp) _; have G1 : Box3 ((w.alloc (.cells #[.slice p m1 c1, .int .i64 k1, .int .i64 n1] 132)).alloc (.cells #[.slice q m2 c2, .int .i64 k2, .int .i64 n2] 132)) w.heap.size (.slice p m1 c1) (.int .i64 k1) (.int .i64 n1) := Box3.of_block (t := 132) ((Below.heap_alloc _ _ _ (by simp)).trans (heap_alloc_new _ _))
 have G2 : Box3 ((w.alloc (.cells #[.slice p m1 c1, .int .i64 k1, .int .i64 n1] 132)).alloc (.cells #[.slice q m2 c2, .int .i64 k2, .int .i64 n2] 132)) (w.heap.size + 1) (.slice q m2 c2) (.int .i64 k2) (.int .i64 n2) := Box3.of_block (t := 132) (by
  have := heap_alloc_new (w.alloc (.cells #[.slice p m1 c1, .int .i64 k1, .int .i64 n1] 132)) (.cells #[.slice q m2 c2, .int .i64 k2, .int .i64 n2] 132); rw [World.size_alloc] at this
  exact this)
 have HG : Hid (∃ os, (w.alloc (.cells #[.slice p m1 c1, .int .i64 k1, .int .i64 n1] 132)).alloc (.cells #[.slice q m2 c2, .int .i64 k2, .int .i64 n2] 132) = grow w os) := ⟨_, by rw [alloc_eq_grow, alloc_eq_grow, grow_grow]⟩
 have HC : Hid (∀ W, Below w.heap.size w W → _) := hC; have HS1 : Hid _ := hS1; have HS2 : Hid _ := hS2; have HI : Hid _ := hI; have HO : Hid _ := hO; have HBW : Hid _ := hb; have HG1 : Hid _ := G1; have HG2 : Hid _ := G2; clear hC hS1 hS2 hI hO hx hy hl1 hl2 hb G1 G2
 go_enter Tryz.func66, Tryz.ntmps66
 go_wp2_with fail; obtain ⟨a0, a1, a2, _⟩ := HG1.out; obtain ⟨b0, b1, b2, _⟩ := HG2.out; clear HG1 HG2
 generalize (w.alloc (.cells #[.slice p m1 c1, .int .i64 k1, .int .i64 n1] 132)).alloc (.cells #[.slice q m2 c2, .int .i64 k2, .int .i64 n2] 132) = W2 at *
 go_region_held3 (fun W => (W.cell? ⟨w.heap.size, 0, none⟩ = some (.slice p m1 c1) ∧ W.cell? ⟨w.heap.size, 2, none⟩ = some (.int .i64 n1)) ∧ W.cell? ⟨w.heap.size + 1, 0, none⟩ = some (.slice q m2 c2) ∧ W.cell? ⟨w.heap.size + 1, 2, none⟩ = some (.int .i64 n2))
  (go_keep)
  (first
    | (go_at_call 163; refine (HC.out _ (by first | exact HBW.out | exact HBW.out.trans (Below.refl _ _).drew)).mono ?_; rintro e w' ⟨rfl, rfl⟩)
    | (go_at_call 164; refine (HI.out _).mono ?_; rintro e w' ⟨rfl, rfl⟩)
    | (go_at_call 159; refine (HS1.out _).mono ?_; rintro e w' ⟨rfl, rfl⟩)
    | (go_at_call 159; refine (HS2.out _).mono ?_; rintro e w' ⟨rfl, rfl⟩)
    | (go_at_call 162; refine (HO.out _ _ (by exact (pair_new _ _ _ _).1) (by exact (pair_new _ _ _ _).2)).mono ?_; rintro e w' ⟨rfl, rfl⟩))
 all_goals go_wp2_with fail
 all_goals go_ret
 obtain ⟨os, hos⟩ := HG.out; exact ⟨rfl, 1, _, by rw [hos, alloc_eq_grow, grow_grow, drew_grow]; rfl⟩
end
section
open Go Go.RowKit
def okB (k n : Int) (s : ByteArray) (m : Nat) : Bool := decide (1 ≤ m ∧ m ≤ 100) && (decide (0 ≤ n ∧ n ≤ 6) && (decide (1 ≤ k ∧ k ≤ 1200) && (if s.toList == [44] then (k == 1000 && n == 1) else !resB s)))
theorem isOp_any (k n : Int) (p : Option Addr) (m cap : Nat) (xs : List Int) (w : World) (hm : m = xs.length) (hb : m ≤ 1000000000) (hx : BIn w p xs) :
  Calls Tryz.prog 110 #[.agg #[.slice p m cap, .int .i64 k, .int .i64 n]] w fun e w' => e = .returned (.bool (okB k n (strOfNums xs) m)) ∧ Below w.heap.size w w' := by
 have hB : Below w.heap.size w (w.alloc (Obj.cells #[.slice p m cap, .int .i64 k, .int .i64 n] 132)) := (Below.refl _ _).alloc (Nat.le_refl _) _; have cv := conv_str (hx.below hB) m cap hm 9 Tryz.underlying9; have HB : Hid _ := hB; have HN := isOpName_any p m cap (w.alloc (Obj.cells #[.slice p m cap, .int .i64 k, .int .i64 n] 132)) hb; have HT := isOpType_any n (w.alloc (Obj.cells #[.slice p m cap, .int .i64 k, .int .i64 n] 132)); clear hx hm hb hB
 generalize strOfNums xs = s at cv ⊢
 have HR := isReserved_any s (w.alloc (Obj.cells #[.slice p m cap, .int .i64 k, .int .i64 n] 132)); have HE : Hid (okB k n s m = (decide (1 ≤ m ∧ m ≤ 100) && (decide (0 ≤ n ∧ n ≤ 6) && (decide (1 ≤ k ∧ k ≤ 1200) && (if s.toList == [44] then (k == 1000 && n == 1) else !resB s))))) := rfl
 generalize resB s = r at HR HE
 generalize decide (1 ≤ m ∧ m ≤ 100) = b1 at HN HE
 generalize decide (0 ≤ n ∧ n ≤ 6) = b2 at HT HE
 have HF : Hid (∀ b, b = okB k n s m → Ending.returned (.bool b) = .returned (.bool (okB k n s m))) := fun b h => ret_bool h
 cases b1
 rotate_right
 case' _ =>
  cases b2
  rotate_right
  case' _ =>
   by_cases h3 : k < 1
   rotate_right
   case' _ =>
    by_cases h4 : 1200 < k
    rotate_right
    case' _ =>
     have h4' : decide (1 ≤ k ∧ k ≤ 1200) = true := by simp; omega
     have HE4 : Hid _ := h4'; clear h4'
     cases h5 : (s.toList == [44])
     rotate_right
     case' _ =>
      cases h6 : (k == 1000)
      rotate_right
      case' _ =>
       cases h7 : (n == 1)
       rotate_right
       case' _ =>
        have HQ : Hid (okB k n s m = true) := by show _ = _; rw [HE.out]; rw [HE4.out, h5, h6, h7]; simp
       rotate_right
       case' _ =>
        have HQ : Hid (okB k n s m = false) := by show _ = _; rw [HE.out]; rw [HE4.out, h5, h6, h7]; simp
      rotate_right
      case' _ =>
       have HQ : Hid (okB k n s m = false) := by show _ = _; rw [HE.out]; rw [HE4.out, h5, h6]; simp
     rotate_right
     case' _ =>
      have HQ : Hid (okB k n s m = !r) := by show _ = _; rw [HE.out]; rw [HE4.out, h5]; simp
    rotate_right
    case' _ =>
     have h4' : decide (1 ≤ k ∧ k ≤ 1200) = false := by simp; omega
     have HQ : Hid (okB k n s m = false) := by show _ = _; rw [HE.out]; rw [h4']; rfl
   rotate_right
   case' _ =>
    have h3' : decide (1 ≤ k ∧ k ≤ 1200) = false := by simp; omega
    have HQ : Hid (okB k n s m = false) := by show _ = _; rw [HE.out]; rw [h3']; rfl
  rotate_right
  case' _ =>
   have HQ : Hid (okB k n s m = false) := by show _ = _; rw [HE.out]; rfl
 rotate_right
 case' _ =>
  have HQ : Hid (okB k n s m = false) := by show _ = _; rw [HE.out]; rfl
 all_goals
  go_enter Tryz.func110, Tryz.ntmps110
  go_wp2_with (first | (go_at_call 201; refine HN.mono ?_; rintro e w' ⟨rfl, rfl⟩) | (go_at_call 202; refine HT.mono ?_; rintro e w' ⟨rfl, rfl⟩) | (go_at_call 203; refine HR.mono ?_; rintro e w' ⟨rfl, rfl⟩)); go_ret; exact ⟨HF.out _ HQ.out.symm, HB.out⟩
def ltO (a b : Cel) : Bool := decide (opCmp a b < 0)
def okC (c : Cel) : Bool := okB c.1 c.2.1 (strOfNums c.2.2) c.2.2.length
def comC (c : Cel) : Bool := (strOfNums c.2.2).toList == [44]
def chainO : Option Cel → List Cel → Bool
 | _, [] => true
 | a, c :: r => okC c && (match a with | none => true | some x => ltO x c) && chainO (some c) r
def tabB (cs : List Cel) : Bool := decide (cs.length ≤ 200) && (chainO none cs && cs.any comC)
def befO (cs : List Cel) (k : Nat) : Option Cel := if k = 0 then none else some (cs.getD (k - 1) Cel.none)
theorem chainO_at (cs : List Cel) (k : Nat) (h : k < cs.length) : chainO (befO cs k) (cs.drop k) = (okC (cs.getD k Cel.none) && (match befO cs k with | none => true | some x => ltO x (cs.getD k Cel.none)) && chainO (befO cs (k + 1)) (cs.drop (k + 1))) := by
 have e : befO cs (k + 1) = some (cs.getD k Cel.none) := by simp [befO]
 rw [drop_at cs k h, e]
 generalize befO cs k = a
 cases a <;> rfl
theorem opCmp_lt (x y : Cel) : opCmp x y < 0 ↔ Op.bytesLess (strOfNums x.2.2).toList (strOfNums y.2.2).toList = true ∨ ((strOfNums x.2.2).toList = (strOfNums y.2.2).toList ∧ srt x.2.1 < srt y.2.1) := by
 unfold opCmp orI cmpI cmpS
 cases h1 : Op.bytesLess (strOfNums x.2.2).toList (strOfNums y.2.2).toList with
 | true => simp
 | false =>
   by_cases e : (strOfNums x.2.2).toList = (strOfNums y.2.2).toList
   ·simp only [e]
    simp
    split
    ·simp; omega
    ·split <;> simp <;> omega
   ·simp [e]
theorem ltO_trans {x y z : Cel} (h1 : ltO x y = true) (h2 : ltO y z = true) : ltO x z = true := by
 simp only [ltO, decide_eq_true_eq, opCmp_lt] at *
 rcases h1 with h1 | ⟨h1, h1'⟩ <;> rcases h2 with h2 | ⟨h2, h2'⟩
 ·exact .inl (bl_trans _ _ _ h1 h2)
 ·exact .inl (h2 ▸ h1)
 ·exact .inl (h1 ▸ h2)
 ·exact .inr ⟨h1.trans h2, by omega⟩
end
end Go.Proofs.YtkklidpnkofipaaGreatDoor
