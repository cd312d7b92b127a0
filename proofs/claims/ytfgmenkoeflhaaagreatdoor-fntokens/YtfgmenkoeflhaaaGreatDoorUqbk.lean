/- Texts of Scan2, LawQuote, Until, Scan3. Own work of the verifier. -/
import Derived.Test.YtfgmenkoeflhaaaGreatDoorUqbj
import Derived.OrdersHeld
namespace Go.Proofs.YtfgmenkoeflhaaaGreatDoor
set_option linter.unusedVariables false
section
open Go Go.RowKit
structure Moved (w w' : World) (S : Nat) (pos : Nat) : Prop where
 grown : w.grownBy w' (some S)
 at1 : w'.cell? ⟨S, 1, none⟩ = some (.int .i64 pos)
 other : ∀ j, j ≠ 1 → w'.cell? ⟨S, j, none⟩ = w.cell? ⟨S, j, none⟩
 frozen : ∀ j, w'.frozen? ⟨S, j, none⟩ = w.frozen? ⟨S, j, none⟩
theorem grown_of_below {w w' : World} (h : Below w.heap.size w w') (row : Option Nat) : w.grownBy w' row := ⟨h.os, h.tape, h.output, h.size, fun k hk _ => h.block k hk⟩
theorem Moved.of_below {w w' : World} {S pos : Nat} (h : Below w.heap.size w w') (hS : S < w.heap.size) (h1 : w.cell? ⟨S, 1, none⟩ = some (.int .i64 pos)) : Moved w w' S pos :=
 ⟨grown_of_below h _, (h.cell (p := ⟨S, 1, none⟩) hS).trans h1, fun j _ => h.cell (p := ⟨S, j, none⟩) hS, fun j => h.frozen (p := ⟨S, j, none⟩) hS⟩
theorem Moved.trans {a b c : World} {S p q : Nat} (h : Moved a b S p) (k : Moved b c S q) : Moved a c S q :=
 ⟨h.grown.trans k.grown, k.at1, fun j hj => (k.other j hj).trans (h.other j hj), fun j => (k.frozen j).trans (h.frozen j)⟩
theorem Moved.set {w : World} {S : Nat} (q pos : Nat) (h1 : w.cell? ⟨S, 1, none⟩ = some (.int .i64 q)) : Moved w (w.setCell ⟨S, 1, none⟩ (.int .i64 pos)) S pos :=
 ⟨⟨rfl, rfl, rfl, by simp, fun k _ hk => heap_setCell_other w ⟨S, 1, none⟩ k _ (fun e => hk (by simp [e]))⟩, World.cell?_setCell_same' _ _ _ (by rw [h1]; rfl), fun j hj => World.cell?_setCell_other _ _ _ _ (by intro e; simp only [Addr.mk.injEq] at e; omega), fun j => World.frozen?_setCell _ _ _ _⟩
theorem Moved.onto {w W w1 w2 : World} {S p : Nat} (h : Below w.heap.size w W) (M : Moved W w1 S p) (k : Below w.heap.size w1 w2) (hS : S < w.heap.size) : Moved w w2 S p :=
 ⟨⟨k.os.trans (M.grown.os.trans h.os), k.tape.trans (M.grown.tape.trans h.tape), k.output.trans (M.grown.output.trans h.output), Nat.le_trans h.size (Nat.le_trans M.grown.size k.size), fun j hj hne => (k.block j hj).trans ((M.grown.block j (Nat.lt_of_lt_of_le hj h.size) hne).trans (h.block j hj))⟩,
  (k.cell (p := ⟨S, 1, none⟩) hS).trans M.at1, fun j hj => (k.cell (p := ⟨S, j, none⟩) hS).trans ((M.other j hj).trans (h.cell (p := ⟨S, j, none⟩) hS)), fun j => (k.frozen (p := ⟨S, j, none⟩) hS).trans ((M.frozen j).trans (h.frozen (p := ⟨S, j, none⟩) hS))⟩
theorem grown_setCell (w : World) (a : Addr) (v : Value) : w.grownBy (w.setCell a v) (some a.block) := ⟨rfl, rfl, rfl, by simp, fun k _ hk => heap_setCell_other w a k v (fun e => hk (by rw [e]))⟩
theorem grown_set5 (w : World) (g : Nat) (v0 v1 v2 v3 v4 : Value) : w.grownBy (w.setCells g 0 [v0, v1, v2, v3, v4]) (some g) :=
 ((((grown_setCell w ⟨g, 0, none⟩ v0).trans (grown_setCell _ ⟨g, 1, none⟩ v1)).trans (grown_setCell _ ⟨g, 2, none⟩ v2)).trans (grown_setCell _ ⟨g, 3, none⟩ v3)).trans (grown_setCell _ ⟨g, 4, none⟩ v4)
theorem fault_any (S pos : Nat) (code : Int) (w : World) (h1 : w.cell? ⟨S, 1, none⟩ = some (.int .i64 pos)) (hS : S < w.heap.size) :
 Calls Tryz.prog 77 #[.pointer (some ⟨S, 0, none⟩), .int .i64 code] w fun e w' => e = .returned (.agg #[.int .i64 code, .int .i64 pos]) ∧ Below w.heap.size w w' := by
 have h2 : ∀ o, (w.alloc o).cell? ⟨S, 1, none⟩ = some (.int .i64 pos) := fun o => Lib.cell?_alloc_marked o h1
 clear h1
 go_enter Tryz.func77, Tryz.ntmps77
 go_wp2
 exact bodyPost_ret (v := .agg #[.int .i64 code, .int .i64 pos]) (by simp [results, Tryz.results77, go_sem]) rfl ⟨rfl, (Below.refl _ _).alloc (Nat.le_refl _) _⟩
def Faults (code : Int) (pos : Nat) (e : Ending) : Prop := e = .panicked [{ v := .iface 38 (.agg #[.int .i64 code, .int .i64 pos]), recovered := false }]
theorem take_long (S pos : Nat) (kind : Int) (end_ : Nat) (p : Option Addr) (n c : Nat) (w : World) (h1 : w.cell? ⟨S, 1, none⟩ = some (.int .i64 pos)) (hS : S < w.heap.size) (hn : 100 < n) (hm : n ≤ 1000000) :
 Calls Tryz.prog 73 #[.pointer (some ⟨S, 0, none⟩), .int .i64 kind, .int .i64 end_, .slice p n c] w fun e w' => Faults 3 pos e ∧ Below w.heap.size w w' := by
 have H2 : Hid (∀ o, (w.alloc o).cell? ⟨S, 1, none⟩ = some (.int .i64 pos)) := fun o => Lib.cell?_alloc_marked o h1
 clear h1
 go_enter Tryz.func73, Tryz.ntmps73
 go_wp2_with (go_at_call 77; refine (fault_any S pos 3 _ (H2.out _) (by simp; omega)).mono ?_; rintro e w1 ⟨rfl, hb1⟩); exact ⟨rfl, rfl, ((Below.refl _ _).alloc (Nat.le_refl _) _).trans (hb1.mono (by simp))⟩
theorem take_fits (S pos : Nat) (kind : Int) (end_ : Nat) (p : Option Addr) (n c : Nat) (w : World) (h1 : w.cell? ⟨S, 1, none⟩ = some (.int .i64 pos)) (hf : w.frozen? ⟨S, 1, none⟩ = false) (hS : S < w.heap.size) (hn : n ≤ 100) (hp : pos ≤ end_) (he : end_ ≤ 1000000) :
 Calls Tryz.prog 73 #[.pointer (some ⟨S, 0, none⟩), .int .i64 kind, .int .i64 end_, .slice p n c] w fun e w' => e = .returned (.agg #[.int .i64 kind, .int .i64 pos, .int .i64 (end_ - pos), .slice p n c, .int .i64 0]) ∧ Moved w w' S end_ := by
 have h2 : ∀ o, (w.alloc o).cell? ⟨S, 1, none⟩ = some (.int .i64 pos) := fun o => Lib.cell?_alloc_marked o h1
 have hwr : IntKind.i64.wrap ((end_ : Int) - pos) = (end_ : Int) - pos := by rw [IntKind.wrap_i64]; omega
 go_enter Tryz.func73, Tryz.ntmps73
 go_wp2
 go_region_held3 (fun w' => w'.cell? ⟨S, 1, none⟩ = some (.int .i64 pos)) (go_keep) (fail)
 all_goals go_wp2
 have M := (Moved.set pos end_ h1).trans (Moved.of_below (w' := ((((w.setCell ⟨S, 1, none⟩ (.int .i64 end_)).alloc (.cells #[.int .i64 kind, .int .i64 pos, .int .i64 (end_ - pos), .slice p n c, .int .i64 0] 28)).alloc (.cells #[.int .i64 kind, .int .i64 pos, .int .i64 (end_ - pos), .slice p n c, .int .i64 0] 28)).drew))
  ((((Below.refl _ _).alloc (Nat.le_refl _) _).alloc (by simp) _).drew) (by simpa using hS) (Moved.set pos end_ h1).at1)
 exact bodyPost_ret (v := .agg #[.int .i64 kind, .int .i64 pos, .int .i64 (end_ - pos), .slice p n c, .int .i64 0]) (by simp [results, Tryz.results73, go_sem]) rfl ⟨rfl, M⟩
theorem Below.of_grown {B : Nat} {w w' : World} {row : Option Nat} (hg : w.grownBy w' row) (hB : B ≤ w.heap.size) (hr : ∀ k, row = some k → B ≤ k) : Below B w w' := (Below.refl _ _).grown hg hB hr
end
section
open Go
section
variable {P : Program} {ops : Array Oper} {Q : Exit → Act → World → Prop} {md : Region.Mode} {S : World → Prop} {c : Nat}
def wpAnyU (P : Program) (md : Region.Mode) (ops : Array Oper) (Q : Exit → Act → World → Prop) (S : World → Prop) (c : Nat) : Nat → Array Bool → Act → World → Prop
 | 0, listed, a, w => Region.ready md ops listed = [] ∧ Q .normal a w
 | fuel + 1, listed, a, w =>
   (Region.ready md ops listed = [] → Q .normal a w) ∧
   ∀ i ∈ Region.ready md ops listed, wpOp P ops Q i (fun a' w' => ((listed.setIfInBounds i true).getD c true = false → S w') ∧ wpAnyU P md ops Q S c fuel (listed.setIfInBounds i true) a' w') a w
theorem wpAny_of_until : ∀ (fuel : Nat) (listed : Array Bool) (a : Act) (w : World), wpAnyU P md ops Q S c fuel listed a w → wpAny P md ops Q fuel listed a w
 | 0, _, _, _, h => h
 | fuel + 1, _, _, _, h => ⟨h.1, fun i hi => wpOp_mono (fun a' w' h' => wpAny_of_until fuel _ a' w' h'.2) (h.2 i hi)⟩
def waitsB (md : Region.Mode) (ops : Array Oper) (D : List Nat) (i : Nat) : Bool :=
 !D.contains i && D.all fun d => match ops[d]? with
  | some o => o.after.any fun e => Region.binds md e && (e.on == i || D.contains e.on)
  | none => false
theorem waits_spec {D : List Nat} {i : Nat} (h : waitsB md ops D i = true) : i ∉ D ∧ ∀ d ∈ D, ∃ o, ops[d]? = some o ∧ ∃ e ∈ o.after, Region.binds md e = true ∧ (e.on = i ∨ e.on ∈ D) := by
 simp only [waitsB, Bool.and_eq_true, Bool.not_eq_true', List.all_eq_true] at h; refine ⟨by simpa using h.1, fun d hd => ?_⟩; have h2 := h.2 d hd
 cases ho : ops[d]? with
 | none => simp [ho] at h2
 | some o =>
   simp only [ho, Array.any_eq_true', Bool.and_eq_true, Bool.or_eq_true, beq_iff_eq, List.contains_iff_mem] at h2; obtain ⟨e, he, hb, hx⟩ := h2; exact ⟨o, rfl, e, he, hb, hx⟩
theorem wpAnyU_first {i : Nat} {oi : Oper} {v : Value} {D : List Nat} (hi : ops[i]? = some oi) (hsel : ∀ (j : Nat) (o : Oper) cs b, ops[j]? = some o → o.op ≠ .select cs b)
 (hQ : ∀ c a w, Q (.panic c) (a.put oi.dst v) w → Q (.panic c) a w) (hw : waitsB md ops D i = true) (hcD : c ∈ D) :
 ∀ (fuel : Nat) (listed : Array Bool) (a : Act) (w : World),
   (∀ j oj, ops[j]? = some oj → j ≠ i → listed.getD j true = false → (∀ e ∈ oj.after, Region.binds md e = true → e.on ≠ i) → oi.apart ops oj = true) →
   (∀ d ∈ D, listed.getD d true = false) →
   i ∈ Region.ready md ops listed → YieldsIf P ops S oi v a → S w →
   wpAnyU P md ops Q S c fuel (listed.setIfInBounds i true) (a.put oi.dst v) w → wpAnyU P md ops Q S c (fuel + 1) listed a w := by
 obtain ⟨hiD, hwait⟩ := waits_spec hw
 intro fuel
 induction fuel with
 | zero =>
   intro listed a w _ _ hr hy hS H
   refine ⟨fun h => (by rw [h] at hr; cases hr), fun j hj => ?_⟩
   by_cases hji : j = i
   ·subst hji; exact hy.wpOp hi hS ⟨fun _ => hS, H⟩
   ·have := ready_mono hj hji
    rw [H.1] at this
    cases this
 | succ fuel ih =>
   intro listed a w hfree hD hr hy hS H
   refine ⟨fun h => (by rw [h] at hr; cases hr), fun j hj => ?_⟩
   by_cases hji : j = i
   ·subst hji; exact hy.wpOp hi hS ⟨fun _ => hS, H⟩
   ·have h1 := H.2 j (ready_mono hj hji)
    obtain ⟨hjun, oj, hoj, hall⟩ := mem_ready.1 hj
    have hnot : ∀ e ∈ oj.after, Region.binds md e = true → e.on ≠ i := fun e he hb heq => by
     have h1 := hall e he hb; have h0 := (mem_ready.1 hr).1; rw [heq] at h1
     rcases Nat.lt_or_ge i listed.size with h' | h'
     ·simp [h'] at h0 h1; rw [h0] at h1; cases h1
     ·simp [Array.getElem?_eq_none h'] at h1
    have hjD : j ∉ D := fun hjD => by
     obtain ⟨o, ho, e, he, hb, hx⟩ := hwait j hjD; rw [hoj] at ho
     cases ho
     rcases hx with hx | hx
     ·exact hnot e he hb hx
     ·have h1 := hall e he hb
      have h0 := hD _ hx
      rcases Nat.lt_or_ge e.on listed.size with h' | h'
      ·simp [h'] at h0 h1; rw [h0] at h1; cases h1
      ·simp [Array.getElem?_eq_none h'] at h1
    have hkeep : ∀ d ∈ D, (listed.setIfInBounds j true).getD d true = false := fun d hd => by
     rw [getD_set_ne true (show j ≠ d from fun e => hjD (e ▸ hd))]; exact hD d hd
    have hcj : ((listed.setIfInBounds i true).setIfInBounds j true).getD c true = false := by
     rw [getD_set_ne true (show j ≠ c from fun e => hjD (e ▸ hcD)), getD_set_ne true (show i ≠ c from fun e => hiD (e ▸ hcD))]; exact hD c hcD
    have h2 := wpOp_putIf hoj (hfree j oj hoj hji hjun hnot) (fun cs b => hsel i oi cs b hi) (fun cs b => hsel j oj cs b hoj) hQ hy h1; have hfree' : ∀ k ok, ops[k]? = some ok → k ≠ i → (listed.setIfInBounds j true).getD k true = false →
     (∀ e ∈ ok.after, Region.binds md e = true → e.on ≠ i) → oi.apart ops ok = true := fun k ok hk hki hun hno => by
     refine hfree k ok hk hki ?_ hno
     by_cases hjk : j = k
     ·subst hjk; exact hjun
     ·rw [getD_set_ne true hjk] at hun; exact hun
    refine wpOp_mono (fun a' w' h3 => ⟨fun _ => h3.2.1 hcj, ih (listed.setIfInBounds j true) a' w' hfree' hkeep (ready_mono hr (Ne.symm hji)) h3.1 (h3.2.1 hcj) ?_⟩) h2; rw [Array.setIfInBounds_comm _ _ hji]; exact h3.2.2
theorem wpAnyU_take {i : Nat} {v : Value} {D : List Nat} {fuel : Nat} {listed : Array Bool} {a : Act} {w : World} (d : Option Tmp) (hd : (ops[i]?).map (·.dst) = some d)
 (hs : Region.noSelect ops = true) (hf : Region.free md ops listed i = true) (hr : (Region.ready md ops listed).contains i = true) (hw : waitsB md ops D i = true) (hcD : D.contains c = true) (hD : (D.all fun d => !listed.getD d true) = true)
 (hQ : ∀ c a w, Q (.panic c) (a.put d v) w → Q (.panic c) a w) (hy : ∀ oi, ops[i]? = some oi → YieldsIf P ops S oi v a) (hS : S w)
 (h : wpAnyU P md ops Q S c fuel (listed.setIfInBounds i true) (a.put d v) w) : wpAnyU P md ops Q S c (fuel + 1) listed a w := by
 cases hi : ops[i]? with
 | none => simp [hi] at hd
 | some oi =>
   have hd' : oi.dst = d := by simpa [hi] using hd
   subst hd'; exact wpAnyU_first hi (Region.noSelect_spec hs) hQ hw (by simpa using hcD) fuel listed a w (Region.free_spec hi hf) (fun d hd => by have := List.all_eq_true.1 hD d hd; simpa using this) (by simpa using hr) (hy oi hi) hS h
theorem wpAnyU_all {rs : List Nat} {fuel : Nat} {listed : Array Bool} {a : Act} {w : World} (hr : Region.ready md ops listed = rs) (hne : rs ≠ [])
 (h : ∀ i ∈ rs, wpOp P ops Q i (fun a' w' => ((listed.setIfInBounds i true).getD c true = false → S w') ∧ wpAnyU P md ops Q S c fuel (listed.setIfInBounds i true) a' w') a w) : wpAnyU P md ops Q S c (fuel + 1) listed a w :=
 ⟨fun h0 => absurd (hr ▸ h0) hne, hr ▸ h⟩
theorem wpAnyU_done {listed : Array Bool} {a : Act} {w : World} (hr : Region.ready md ops listed = []) (h : Q .normal a w) :
 ∀ fuel, wpAnyU P md ops Q S c fuel listed a w
 | 0 => ⟨hr, h⟩
 | _ + 1 => ⟨fun _ => h, by rw [hr]; simp⟩
theorem wp_region_until {id : Nat} {a : Act} {w : World} (hm : P.follows .mixedOrders = true)
 (h : wpAnyU P .any ops Q S c ops.size (Array.replicate ops.size false) a { w with drawn := w.drawn + 1 }) : (Code.region id ops true).wp P Q a w :=
 wp_region_any hm (wpAny_of_until _ _ _ _ h)
theorem wpOp_value {i : Nat} {v : Value} {a : Act} {w w' : World} {K : Act → World → Prop} (d : Option Tmp) (hd : (ops[i]?).map (·.dst) = some d) (hw : (ops[i]?).map (fun o => Region.wanted o (yielded ops a.tmps)) = some true)
 (hrun : ∀ o, ops[i]? = some o → (execOp a.eval o).run P w = .ok (.value v) w') (hK : K (a.put d v) w') : wpOp P ops Q i K a w := by
 cases hi : ops[i]? with
 | none => simp [hi] at hd
 | some o =>
   have hd' : o.dst = d := by simpa [hi] using hd
   have hw' : Region.wanted o (yielded ops a.tmps) = true := by simpa [hi] using hw
   subst hd'
   unfold wpOp
   simp only [hi, hw', if_true, Oper.wp, hrun o hi, Oper.upon]; exact .inl hK
theorem wpOp_skip {i : Nat} {a : Act} {w w' : World} {K : Act → World → Prop} (d : Option Tmp) (hd : (ops[i]?).map (·.dst) = some d) (hw : (ops[i]?).map (fun o => Region.wanted o (yielded ops a.tmps)) = some true)
 (hrun : ∀ o, ops[i]? = some o → (execOp a.eval o).run P w = .ok .skip w') (hK : K (a.put d undef) w') : wpOp P ops Q i K a w := by
 cases hi : ops[i]? with
 | none => simp [hi] at hd
 | some o =>
   have hd' : o.dst = d := by simpa [hi] using hd
   have hw' : Region.wanted o (yielded ops a.tmps) = true := by simpa [hi] using hw
   subst hd'
   unfold wpOp
   simp only [hi, hw', if_true, Oper.wp, hrun o hi, Oper.upon]; exact .inl hK
theorem wpOp_enter {i : Nat} {f : FuncId} {args : Array Value} {R : Ending → World → Prop} {a : Act} {w w' : World} {K : Act → World → Prop} (d : Option Tmp) (hd : (ops[i]?).map (·.dst) = some d) (hw : (ops[i]?).map (fun o => Region.wanted o (yielded ops a.tmps)) = some true)
 (hrun : ∀ o, ops[i]? = some o → (execOp a.eval o).run P w = .ok (.enter f args) w') (hC : Calls P f args w' R) (hK : ∀ u w'', R (.returned u) w'' → K (a.put d u) w'') (hP : ∀ ch w'', R (.panicked ch) w'' → Q (.panic ch) a w'') (hO : ∀ w'', ¬ R .outgrown w'') : wpOp P ops Q i K a w := by
 cases hi : ops[i]? with
 | none => simp [hi] at hd
 | some o =>
   have hd' : o.dst = d := by simpa [hi] using hd
   have hw' : Region.wanted o (yielded ops a.tmps) = true := by simpa [hi] using hw
   subst hd'
   unfold wpOp
   simp only [hi, hw', if_true, Oper.wp, hrun o hi, Oper.upon]; refine .inl (hC.mono fun e w'' he => ?_)
   cases e with
   | returned u => exact hK u w'' he
   | panicked ch => exact hP ch w'' he
   | outgrown => exact absurd he (hO w'')
end
end
section
open Go Go.RowKit
set_option linter.unusedSimpArgs false
abbrev tokV (kind at_ len : Int) (p : Option Addr) (n c : Nat) (v : Int) : Value := .agg #[.int .i64 kind, .int .i64 at_, .int .i64 len, .slice p n c, .int .i64 v]
abbrev tokO : Obj := .cells #[.int .i64 0, .int .i64 0, .int .i64 0, .slice none 0 0, .int .i64 0] 28
set_option maxHeartbeats 1000000 in
set_option maxRecDepth 100000 in
theorem single_any (S b n c pos : Nat) (kind : Int) (xs : List Int) (w : World) (hb : Bytes xs) (hn : n = xs.length) (hm : n ≤ 100000) (hp : pos < xs.length)
 (h0 : w.cell? ⟨S, 0, none⟩ = some (.slice (some ⟨b, 0, none⟩) n c)) (h1 : w.cell? ⟨S, 1, none⟩ = some (.int .i64 pos)) (hf : w.frozen? ⟨S, 1, none⟩ = false) (hS : S < w.heap.size)
 (hc : ∀ i, i < xs.length → w.cell? ⟨b, i, none⟩ = some (.int .u8 (xs.getD i 0))) :
 Calls Tryz.prog 74 #[.pointer (some ⟨S, 0, none⟩), .int .i64 kind] w fun e w' => ∃ p' n' c', e = .returned (tokV kind pos 1 p' n' c' 0) ∧ OwnS w' w.heap.size p' n' c' [xs.getD pos 0] ∧ Moved w w' S (pos + 1) := by
 have hx := hc pos hp
 obtain ⟨x, ex⟩ : ∃ x, x = xs.getD pos 0 := ⟨_, rfl⟩
 rw [← ex] at hx ⊢
 have hlt : (pos : Int) < n := by omega
 have hps : (pos : Int) + 1 ≤ 1000000 := by omega
 have hwr : IntKind.i64.wrap ((pos : Int) + 1) = (pos : Int) + 1 := by rw [IntKind.wrap_i64]; omega
 clear ex hc hn
 go_enter Tryz.func74, Tryz.ntmps74
 go_wp2
 refine wp_region_noPanic ?_; refine wp_region_until (S := fun w' => w'.cell? ⟨S, 0, none⟩ = some (.slice (some ⟨b, 0, none⟩) n c) ∧ w'.cell? ⟨S, 1, none⟩ = some (.int .i64 pos) ∧ w'.cell? ⟨b, pos, none⟩ = some (.int .u8 x)) (c := 18) (by kernel_rfl) ?_
 have hS0 : ∀ o, ((w.alloc o).drew.cell? ⟨S, 0, none⟩ = some (.slice (some ⟨b, 0, none⟩) n c) ∧ (w.alloc o).drew.cell? ⟨S, 1, none⟩ = some (.int .i64 pos) ∧ (w.alloc o).drew.cell? ⟨b, pos, none⟩ = some (.int .u8 x)) := fun o => ⟨Lib.cell?_alloc_marked o h0, Lib.cell?_alloc_marked o h1, Lib.cell?_alloc_marked o hx⟩
 refine wpAnyU_take (i := 0) (v := .pointer (some ⟨S, 0, none⟩)) (D := [18, 19]) (some 5) (by kernel_rfl) (by kernel_rfl) (by kernel_rfl) (by kernel_rfl) (by kernel_rfl) (by rfl) (by kernel_rfl) (fun _ _ _ h => h) (fun o ho => ?y0) (hS0 _) ?_
 case y0 =>
  cases ho
  refine .inl ⟨by kernel_rfl, fun w' hw => ?_⟩
  simp [execOp, go_sem, Act.eval, Act.put]
 refine wpAnyU_take (i := 1) (v := .int .i64 kind) (D := [18, 19]) (some 6) (by kernel_rfl) (by kernel_rfl) (by kernel_rfl) (by kernel_rfl) (by kernel_rfl) (by rfl) (by kernel_rfl) (fun _ _ _ h => h) (fun o ho => ?y1) (hS0 _) ?_
 case y1 =>
  cases ho
  refine .inl ⟨by kernel_rfl, fun w' hw => ?_⟩
  simp [execOp, go_sem, Act.eval, Act.put]
 refine wpAnyU_take (i := 2) (v := .pointer (some ⟨S, 0, none⟩)) (D := [3, 4, 5, 6, 18, 19]) (some 7) (by kernel_rfl) (by kernel_rfl) (by kernel_rfl) (by kernel_rfl) (by kernel_rfl) (by rfl) (by kernel_rfl) (fun _ _ _ h => h) (fun o ho => ?y2) (hS0 _) ?_
 case y2 =>
  cases ho
  refine .inl ⟨by kernel_rfl, fun w' hw => ?_⟩
  simp [execOp, go_sem, Act.eval, Act.put]
 refine wpAnyU_take (i := 3) (v := .pointer (some ⟨S, 0, none⟩)) (D := [4, 5, 6, 18, 19]) (some 8) (by kernel_rfl) (by kernel_rfl) (by kernel_rfl) (by kernel_rfl) (by kernel_rfl) (by rfl) (by kernel_rfl) (fun _ _ _ h => h) (fun o ho => ?y3) (hS0 _) ?_
 case y3 =>
  cases ho
  refine .inl ⟨by kernel_rfl, fun w' hw => ?_⟩
  simp [execOp, go_sem, Act.eval, Act.put]
 refine wpAnyU_take (i := 4) (v := .pointer (some ⟨S, 1, none⟩)) (D := [5, 6, 18, 19]) (some 9) (by kernel_rfl) (by kernel_rfl) (by kernel_rfl) (by kernel_rfl) (by kernel_rfl) (by rfl) (by kernel_rfl) (fun _ _ _ h => h) (fun o ho => ?y4) (hS0 _) ?_
 case y4 =>
  cases ho
  refine .inl ⟨by kernel_rfl, fun w' hw => ?_⟩
  simp [execOp, go_sem, Act.eval, Act.put]
 refine wpAnyU_take (i := 5) (v := .int .i64 pos) (D := [6, 18, 19]) (some 10) (by kernel_rfl) (by kernel_rfl) (by kernel_rfl) (by kernel_rfl) (by kernel_rfl) (by rfl) (by kernel_rfl) (fun _ _ _ h => h) (fun o ho => ?y5) (hS0 _) ?_
 case y5 =>
  cases ho
  refine .inl ⟨by kernel_rfl, fun w' hw => ?_⟩
  simp [execOp, go_sem, hw.1, hw.2.1, hw.2.2, Act.eval, Act.put]
 refine wpAnyU_take (i := 6) (v := .int .i64 (pos + 1)) (D := [18, 19]) (some 11) (by kernel_rfl) (by kernel_rfl) (by kernel_rfl) (by kernel_rfl) (by kernel_rfl) (by rfl) (by kernel_rfl) (fun _ _ _ h => h) (fun o ho => ?y6) (hS0 _) ?_
 case y6 =>
  cases ho
  refine .inl ⟨by kernel_rfl, fun w' hw => ?_⟩
  simp [execOp, go_sem, Act.eval, Act.put, hwr]
 refine wpAnyU_take (i := 7) (v := .pointer (some ⟨S, 0, none⟩)) (D := [8, 9, 10, 15, 16, 17, 18, 19]) (some 12) (by kernel_rfl) (by kernel_rfl) (by kernel_rfl) (by kernel_rfl) (by kernel_rfl) (by rfl) (by kernel_rfl) (fun _ _ _ h => h) (fun o ho => ?y7) (hS0 _) ?_
 case y7 =>
  cases ho
  refine .inl ⟨by kernel_rfl, fun w' hw => ?_⟩
  simp [execOp, go_sem, Act.eval, Act.put]
 refine wpAnyU_take (i := 8) (v := .pointer (some ⟨S, 0, none⟩)) (D := [9, 10, 15, 16, 17, 18, 19]) (some 13) (by kernel_rfl) (by kernel_rfl) (by kernel_rfl) (by kernel_rfl) (by kernel_rfl) (by rfl) (by kernel_rfl) (fun _ _ _ h => h) (fun o ho => ?y8) (hS0 _) ?_
 case y8 =>
  cases ho
  refine .inl ⟨by kernel_rfl, fun w' hw => ?_⟩
  simp [execOp, go_sem, Act.eval, Act.put]
 refine wpAnyU_take (i := 9) (v := .pointer (some ⟨S, 0, none⟩)) (D := [10, 15, 16, 17, 18, 19]) (some 14) (by kernel_rfl) (by kernel_rfl) (by kernel_rfl) (by kernel_rfl) (by kernel_rfl) (by rfl) (by kernel_rfl) (fun _ _ _ h => h) (fun o ho => ?y9) (hS0 _) ?_
 case y9 =>
  cases ho
  refine .inl ⟨by kernel_rfl, fun w' hw => ?_⟩
  simp [execOp, go_sem, Act.eval, Act.put]
 refine wpAnyU_take (i := 10) (v := .slice (some ⟨b, 0, none⟩) n c) (D := [15, 16, 17, 18, 19]) (some 15) (by kernel_rfl) (by kernel_rfl) (by kernel_rfl) (by kernel_rfl) (by kernel_rfl) (by rfl) (by kernel_rfl) (fun _ _ _ h => h) (fun o ho => ?y10) (hS0 _) ?_
 case y10 =>
  cases ho
  refine .inl ⟨by kernel_rfl, fun w' hw => ?_⟩
  simp [execOp, go_sem, hw.1, hw.2.1, hw.2.2, Act.eval, Act.put]
 refine wpAnyU_take (i := 11) (v := .pointer (some ⟨S, 0, none⟩)) (D := [12, 13, 14, 15, 16, 17, 18, 19]) (some 16) (by kernel_rfl) (by kernel_rfl) (by kernel_rfl) (by kernel_rfl) (by kernel_rfl) (by rfl) (by kernel_rfl) (fun _ _ _ h => h) (fun o ho => ?y11) (hS0 _) ?_
 case y11 =>
  cases ho
  refine .inl ⟨by kernel_rfl, fun w' hw => ?_⟩
  simp [execOp, go_sem, Act.eval, Act.put]
 refine wpAnyU_take (i := 12) (v := .pointer (some ⟨S, 0, none⟩)) (D := [13, 14, 15, 16, 17, 18, 19]) (some 17) (by kernel_rfl) (by kernel_rfl) (by kernel_rfl) (by kernel_rfl) (by kernel_rfl) (by rfl) (by kernel_rfl) (fun _ _ _ h => h) (fun o ho => ?y12) (hS0 _) ?_
 case y12 =>
  cases ho
  refine .inl ⟨by kernel_rfl, fun w' hw => ?_⟩
  simp [execOp, go_sem, Act.eval, Act.put]
 refine wpAnyU_take (i := 13) (v := .pointer (some ⟨S, 1, none⟩)) (D := [14, 15, 16, 17, 18, 19]) (some 18) (by kernel_rfl) (by kernel_rfl) (by kernel_rfl) (by kernel_rfl) (by kernel_rfl) (by rfl) (by kernel_rfl) (fun _ _ _ h => h) (fun o ho => ?y13) (hS0 _) ?_
 case y13 =>
  cases ho
  refine .inl ⟨by kernel_rfl, fun w' hw => ?_⟩
  simp [execOp, go_sem, Act.eval, Act.put]
 refine wpAnyU_take (i := 14) (v := .int .i64 pos) (D := [15, 16, 17, 18, 19]) (some 19) (by kernel_rfl) (by kernel_rfl) (by kernel_rfl) (by kernel_rfl) (by kernel_rfl) (by rfl) (by kernel_rfl) (fun _ _ _ h => h) (fun o ho => ?y14) (hS0 _) ?_
 case y14 =>
  cases ho
  refine .inl ⟨by kernel_rfl, fun w' hw => ?_⟩
  simp [execOp, go_sem, hw.1, hw.2.1, hw.2.2, Act.eval, Act.put]
 refine wpAnyU_take (i := 15) (v := .pointer (some ⟨b, pos, none⟩)) (D := [16, 17, 18, 19]) (some 20) (by kernel_rfl) (by kernel_rfl) (by kernel_rfl) (by kernel_rfl) (by kernel_rfl) (by rfl) (by kernel_rfl) (fun _ _ _ h => h) (fun o ho => ?y15) (hS0 _) ?_
 case y15 =>
  cases ho
  refine .inl ⟨by kernel_rfl, fun w' hw => ?_⟩
  simp [execOp, go_sem, Act.eval, Act.put, hlt]
 refine wpAnyU_take (i := 16) (v := .int .u8 x) (D := [17, 18, 19]) (some 21) (by kernel_rfl) (by kernel_rfl) (by kernel_rfl) (by kernel_rfl) (by kernel_rfl) (by rfl) (by kernel_rfl) (fun _ _ _ h => h) (fun o ho => ?y16) (hS0 _) ?_
 case y16 =>
  cases ho
  refine .inl ⟨by kernel_rfl, fun w' hw => ?_⟩
  simp [execOp, go_sem, hw.1, hw.2.1, hw.2.2, Act.eval, Act.put]
 have hSW : S < (w.alloc tokO).heap.size := by simp; omega
 have k1 : (((w.alloc tokO).alloc (.cells #[.int .u8 x] 5)).drew).cell? ⟨S, 1, none⟩ = some (.int .i64 pos) := Lib.cell?_alloc_marked _ (Lib.cell?_alloc_marked _ h1); have k0 : (((w.alloc tokO).alloc (.cells #[.int .u8 x] 5)).drew).cell? ⟨S, 0, none⟩ = some (.slice (some ⟨b, 0, none⟩) n c) := Lib.cell?_alloc_marked _ (Lib.cell?_alloc_marked _ h0); have kx : (((w.alloc tokO).alloc (.cells #[.int .u8 x] 5)).drew).cell? ⟨b, pos, none⟩ = some (.int .u8 x) := Lib.cell?_alloc_marked _ (Lib.cell?_alloc_marked _ hx)
 have kf : (((w.alloc tokO).alloc (.cells #[.int .u8 x] 5)).drew).frozen? ⟨S, 1, none⟩ = false := by
  show ((w.alloc tokO).alloc _).frozen? _ = _
  rw [World.frozen?_alloc_past (hn := hSW), World.frozen?_alloc_past (hn := hS)]; exact hf
 refine wpAnyU_all (rs := [17]) (by kernel_rfl) (by decide) ?_
 intro i hi
 obtain rfl : i = 17 := by simpa using hi
 clear hi; refine wpOp_value (some 22) (by kernel_rfl) (by kernel_rfl) (v := .slice (some ⟨w.heap.size + 1, 0, none⟩) 1 1) (w' := ((w.alloc tokO).alloc (.cells #[.int .u8 x] 5)).drew) (fun o ho => ?r17) ⟨fun _ => ⟨k0, k1, kx⟩, ?_⟩
 case r17 =>
  cases ho
  simp [execOp, go_sem, Act.eval, Act.put, tokO]
  rfl
 refine wpAnyU_all (rs := [18]) (by kernel_rfl) (by decide) ?_
 intro i hi
 obtain rfl : i = 18 := by simpa using hi
 clear hi; refine wpOp_enter (some 23) (by kernel_rfl) (by kernel_rfl) (f := 73) (args := #[.pointer (some ⟨S, 0, none⟩), .int .i64 kind, .int .i64 ((pos + 1 : Nat) : Int), .slice (some ⟨w.heap.size + 1, 0, none⟩) 1 1]) (w' := ((w.alloc tokO).alloc (.cells #[.int .u8 x] 5)).drew) (fun o ho => ?r18)
  (take_fits S pos kind (pos + 1) (some ⟨w.heap.size + 1, 0, none⟩) 1 1 _ k1 kf (by show S < ((w.alloc tokO).alloc _).heap.size; simp; omega) (by decide) (by omega) (by omega)) ?k18 (fun ch w'' h => by cases h.1) (fun w'' h => by cases h.1)
 case r18 => cases ho; simp [execOp, go_sem, Act.eval, Act.put]
 case k18 =>
  rintro u w1 ⟨hu, M⟩
  cases hu
  refine ⟨(fun h => by cases h), ?_⟩; refine wpAnyU_all (rs := [19]) (by kernel_rfl) (by decide) ?_
  intro i hi
  obtain rfl : i = 19 := by simpa using hi
  clear hi
  have hN : S ≠ w.heap.size := by omega
  have hblk : w1.heap[w.heap.size]? = some tokO := by
   rw [M.grown.block w.heap.size (by show _ < ((w.alloc tokO).alloc _).heap.size; simp; omega) (by simp; omega)]
   show ((w.heap.push tokO).push _)[w.heap.size]? = _
   simp [Array.getElem?_push]
  have c0 : ∀ j, w1.cell? ⟨w.heap.size, j, none⟩ = (#[.int .i64 0, .int .i64 0, .int .i64 0, .slice none 0 0, .int .i64 0] : Array Value)[j]? := fun j => cell_of_row w1 w.heap.size j _ _ (0, 0) hblk
  have f0 : ∀ j, w1.frozen? ⟨w.heap.size, j, none⟩ = false := fun j => frozen_of_row w1 w.heap.size j _ _ hblk
  refine wpOp_skip none (by kernel_rfl) (by kernel_rfl) (w' := w1.setCells w.heap.size 0 [.int .i64 kind, .int .i64 pos, .int .i64 (((pos + 1 : Nat) : Int) - pos), .slice (some ⟨w.heap.size + 1, 0, none⟩) 1 1, .int .i64 0]) (fun o ho => ?r19) ⟨(fun h => by cases h), ?_⟩
  case r19 =>
   cases ho
   simp [execOp, go_sem, Act.eval, Act.put, c0, f0]
   rfl
  refine wpAnyU_done (by kernel_rfl) ?_ _; refine NoPanic.normal ?_; have hG := grown_set5 w1 w.heap.size (.int .i64 kind) (.int .i64 pos) (.int .i64 (((pos + 1 : Nat) : Int) - pos)) (.slice (some ⟨w.heap.size + 1, 0, none⟩) 1 1) (.int .i64 0)
  have hsz1 : w.heap.size ≤ w1.heap.size := by have := M.grown.size; simp at this; omega
  have hM : Moved w _ S (pos + 1) := Moved.onto (((Below.refl _ w).alloc (Nat.le_refl _) tokO).alloc (by simp) (.cells #[.int .u8 x] 5)).drew M (Below.of_grown hG hsz1 (fun k e => by cases e; exact Nat.le_refl _)) hS
  have hO2 : OwnS ((w.alloc tokO).alloc (.cells #[.int .u8 x] 5)).drew w.heap.size (some ⟨w.heap.size + 1, 0, none⟩) 1 1 [x] := by
   have := own1 (w.alloc tokO) x; simp only [World.size_alloc] at this; exact ⟨this.1, this.2.1, this.2.2.imp id fun ⟨g, c, cur, a1, a2, a3⟩ => ⟨g, c, cur, a1, by omega, a3⟩⟩
  have hO3 := (hO2.kept M.grown (fun g e e' => by simp only [Option.some.injEq, Addr.mk.injEq, and_true] at e; simp only [Option.some.injEq] at e'; omega)).kept hG (fun g e e' => by simp only [Option.some.injEq, Addr.mk.injEq, and_true] at e; simp only [Option.some.injEq] at e'; omega); have HC0 : Hid (∀ j, w1.cell? ⟨w.heap.size, j, none⟩ = (#[.int .i64 0, .int .i64 0, .int .i64 0, .slice none 0 0, .int .i64 0] : Array Value)[j]?) := c0; have HO3 : Hid (OwnS _ _ _ _ _ _) := hO3; have HM : Hid (Moved _ _ _ _) := hM; clear hO2 M hG hO3 hM c0 f0 hblk k0 k1 kx kf hS0 h0 h1 hx hf hlt hps hwr hN hSW hsz1; simp only [Act.put, zzA, zzB, zzC]
  go_wp2
  exact bodyPost_ret (v := tokV kind pos 1 (some ⟨w.heap.size + 1, 0, none⟩) 1 1 0) (by simp [results, Tryz.results74, go_sem, World.setCells, HC0.out]; omega) rfl ⟨_, _, _, rfl, HO3.out, HM.out⟩
end
end Go.Proofs.YtfgmenkoeflhaaaGreatDoor
