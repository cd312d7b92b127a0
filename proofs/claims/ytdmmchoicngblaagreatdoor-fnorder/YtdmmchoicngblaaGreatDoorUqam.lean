/- Texts of OrP, RgQ, OpsP, OpsM1, OpsV4. Own work of the verifier. -/
import Derived.Test.YtdmmchoicngblaaGreatDoorUqad
import Derived.RangeFuncNested
import Derived.RangeFuncBound
import Derived.RangeFuncLeaves
import Derived.Shelf.RegionOpen
import Derived.OwnWalkIn
import Derived.TacticsInMore
import Derived.LoopNIn
import Derived.LoopIn
import Derived.Sort.EveryDepth
import Derived.Test.YtdmmchoicngblaaGreatDoorUqal
import Derived.Test.YtdmmchoicngblaaGreatDoorUqaf
namespace Go.Proofs.YtdmmchoicngblaaGreatDoor
set_option linter.unusedVariables false
set_option maxRecDepth 100000
section
open Go Go.RowKit
theorem sgn_vals (b : Bool) : sgn b = -1 ∨ sgn b = 1 := by cases b <;> simp [sgn]
theorem cellCmp_vals (x y : Cel) : cellCmp x y = -1 ∨ cellCmp x y = 0 ∨ cellCmp x y = 1 := by
 unfold cellCmp
 split
 ·rcases sgn_vals (decide (x.1 < y.1)) with h | h <;> simp [h]
 split
 ·rcases sgn_vals (decide (x.2.1 < y.2.1)) with h | h <;> simp [h]
 split
 ·simp
 ·rcases sgn_vals (Op.bytesLess (strOfNums x.2.2).toList (strOfNums y.2.2).toList) with h | h <;> simp [h]
def cellLt (x y : Cel) : Prop := x.1 < y.1 ∨ (x.1 = y.1 ∧ (x.2.1 < y.2.1 ∨ (x.2.1 = y.2.1 ∧ Op.bytesLess (strOfNums x.2.2).toList (strOfNums y.2.2).toList = true)))
theorem cellCmp_lt {x y : Cel} : cellCmp x y = -1 ↔ cellLt x y := by
 unfold cellCmp cellLt
 by_cases h1 : x.1 = y.1
 ·rw [if_neg (by simpa using h1)]
  by_cases h2 : x.2.1 = y.2.1
  ·rw [if_neg (by simpa using h2)]
   cases h3 : (strOfNums x.2.2).toList == (strOfNums y.2.2).toList with
   | true =>
     rw [if_pos rfl]
     have e : (strOfNums x.2.2).toList = (strOfNums y.2.2).toList := by simpa using h3
     rw [e, bl_irrefl]
     simp [h1, h2]
   | false =>
     rw [if_neg (by simp)]
     cases h4 : Op.bytesLess (strOfNums x.2.2).toList (strOfNums y.2.2).toList <;> simp [sgn, h1, h2]
  ·rw [if_pos (by simpa using h2)]
   by_cases h3 : x.2.1 < y.2.1
   ·simp [sgn, h1, h3]
   ·simp [sgn, h1, h2, h3]
 ·rw [if_pos (by simpa using h1)]
  by_cases h3 : x.1 < y.1
  ·simp [sgn, h3]
  ·simp [sgn, h1, h3]
theorem cellCmp_eqv {x y : Cel} : cellCmp x y = 0 ↔ x.1 = y.1 ∧ x.2.1 = y.2.1 ∧ (strOfNums x.2.2).toList = (strOfNums y.2.2).toList := by
 unfold cellCmp
 by_cases h1 : x.1 = y.1
 ·rw [if_neg (by simpa using h1)]
  by_cases h2 : x.2.1 = y.2.1
  ·rw [if_neg (by simpa using h2)]
   cases h3 : (strOfNums x.2.2).toList == (strOfNums y.2.2).toList with
   | true => rw [if_pos rfl]; simpa [h1, h2] using h3
   | false =>
     rw [if_neg (by simp)]
     have h4 : ¬ (strOfNums x.2.2).toList = (strOfNums y.2.2).toList := by simpa using h3
     simp [h4, sgn_ne]
  ·rw [if_pos (by simpa using h2)]
   simp [h2, sgn_ne]
 ·rw [if_pos (by simpa using h1)]
  simp [h1, sgn_ne]
theorem cellLt_trans {x y z : Cel} (h : cellLt x y) (h' : cellLt y z) : cellLt x z := by
 unfold cellLt at *
 rcases h with h | ⟨e, h⟩
 ·rcases h' with h' | ⟨e', _⟩
  ·exact .inl (by omega)
  ·exact .inl (by omega)
 ·rcases h' with h' | ⟨e', h'⟩
  ·exact .inl (by omega)
  ·refine .inr ⟨e.trans e', ?_⟩
   rcases h with h | ⟨e2, h⟩
   ·rcases h' with h' | ⟨e2', _⟩
    ·exact .inl (by omega)
    ·exact .inl (by omega)
   ·rcases h' with h' | ⟨e2', h'⟩
    ·exact .inl (by omega)
    ·exact .inr ⟨e2.trans e2', bl_trans _ _ _ h h'⟩
theorem cellLt_irrefl {x y : Cel} (h : cellCmp x y = 0) : ¬ cellLt x y := fun h' => by
 rw [← cellCmp_lt, h] at h'
 cases h'
theorem cellLt_tri {x y : Cel} (h : ¬ cellLt x y) (hne : cellCmp x y ≠ 0) : cellLt y x := by
 rw [Ne, cellCmp_eqv] at hne
 unfold cellLt at *
 by_cases h1 : x.1 = y.1
 ·by_cases h2 : x.2.1 = y.2.1
  ·have h3 : (strOfNums x.2.2).toList ≠ (strOfNums y.2.2).toList := fun e => hne ⟨h1, h2, e⟩
   have h4 : Op.bytesLess (strOfNums x.2.2).toList (strOfNums y.2.2).toList = false := by
    cases h5 : Op.bytesLess (strOfNums x.2.2).toList (strOfNums y.2.2).toList with
    | false => rfl
    | true => exact absurd (.inr ⟨h1, .inr ⟨h2, h5⟩⟩) h
   exact .inr ⟨h1.symm, .inr ⟨h2.symm, bl_tri _ _ h4 h3⟩⟩
  ·refine .inr ⟨h1.symm, .inl ?_⟩
   have : ¬ x.2.1 < y.2.1 := fun h5 => h (.inr ⟨h1, .inl h5⟩)
   omega
 ·refine .inl ?_
  have : ¬ x.1 < y.1 := fun h5 => h (.inl h5)
  omega
theorem cellCmp_swap (x y : Cel) : cellCmp y x = - cellCmp x y := by
 rcases cellCmp_vals x y with h | h | h
 ·have h1 := cellCmp_lt.1 h
  have h2 : cellCmp y x = 1 := by
   rcases cellCmp_vals y x with h3 | h3 | h3
   ·exact absurd (cellLt_trans h1 (cellCmp_lt.1 h3)) (cellLt_irrefl (cellCmp_eqv.2 ⟨rfl, rfl, rfl⟩))
   ·obtain ⟨a, b, c⟩ := cellCmp_eqv.1 h3
    exact absurd h1 (cellLt_irrefl (cellCmp_eqv.2 ⟨a.symm, b.symm, c.symm⟩))
   ·exact h3
  rw [h, h2]; rfl
 ·obtain ⟨a, b, c⟩ := cellCmp_eqv.1 h
  rw [h, cellCmp_eqv.2 ⟨a.symm, b.symm, c.symm⟩]; rfl
 ·have h1 : cellLt y x := cellLt_tri (fun h2 => by rw [← cellCmp_lt, h] at h2; cases h2) (by rw [h]; decide)
  rw [h, cellCmp_lt.2 h1]
theorem cellCmp_same {x y : Cel} (h : cellCmp x y = 0) (hx : Byte x.2.2) (hy : Byte y.2.2) : x = y := by
 obtain ⟨a, b, c⟩ := cellCmp_eqv.1 h; rw [str_list, str_list] at c
 have e : x.2.2 = y.2.2 := by rw [← map_back hx, ← map_back hy, c]
 exact Prod.ext a (Prod.ext b e)
theorem cmpC_vals : ∀ xs ys : List Cel, cmpC xs ys = -1 ∨ cmpC xs ys = 0 ∨ cmpC xs ys = 1
 | [], ys => by simp [cmpC]
 | _ :: _, [] => by simp [cmpC]
 | x :: xs, y :: ys => by
   rw [cmpC]
   split
   ·exact cellCmp_vals x y
   ·exact cmpC_vals xs ys
theorem cmpC_swap : ∀ xs ys : List Cel, cmpC ys xs = - cmpC xs ys
 | [], [] => by simp [cmpC]
 | [], _ :: _ => by simp [cmpC]
 | _ :: _, [] => by simp [cmpC]
 | x :: xs, y :: ys => by
   rw [cmpC, cmpC, cellCmp_swap x y, cmpC_swap xs ys]
   by_cases h : cellCmp x y = 0
   ·rw [if_neg (by rw [h]; decide), if_neg (by rw [h]; decide)]
   ·rw [if_pos (by omega), if_pos h]
theorem cmpC_self : ∀ xs : List Cel, cmpC xs xs = 0
 | [] => rfl
 | x :: xs => by rw [cmpC, if_neg (by rw [cellCmp_eqv.2 ⟨rfl, rfl, rfl⟩]; decide)]; exact cmpC_self xs
theorem cmpC_same : ∀ (xs ys : List Cel) (m : Int), validFrom m xs = true → validFrom m ys = true → (∀ c ∈ xs, Byte c.2.2) → (∀ c ∈ ys, Byte c.2.2) → cmpC xs ys = 0 → xs = ys
 | [], [], _, _, _, _, _, _ => rfl
 | [], y :: ys, m, h1, h2, _, _, _ => by
   have : m = 0 := by simpa [validFrom] using h1
   subst this
   simp [validFrom] at h2
 | x :: xs, [], m, h1, h2, _, _, _ => by
   have : m = 0 := by simpa [validFrom] using h2
   subst this
   simp [validFrom] at h1
 | x :: xs, y :: ys, m, h1, h2, b1, b2, h => by
   rw [cmpC] at h
   by_cases hc : cellCmp x y = 0
   ·rw [if_neg (by rw [hc]; decide)] at h
    obtain rfl := cellCmp_same hc (b1 _ (List.mem_cons_self ..)) (b2 _ (List.mem_cons_self ..)); rw [validFrom] at h1 h2
    split at h1
    ·cases h1
    ·rename_i hn
     rw [if_neg hn] at h2; rw [cmpC_same xs ys _ h1 h2 (fun c hm => b1 c (List.mem_cons_of_mem _ hm)) (fun c hm => b2 c (List.mem_cons_of_mem _ hm)) h]
   ·rw [if_pos hc] at h
    exact absurd h hc
theorem cmpC_trans : ∀ (xs ys zs : List Cel) (m : Int), validFrom m xs = true → validFrom m ys = true → validFrom m zs = true → (∀ c ∈ xs, Byte c.2.2) → (∀ c ∈ ys, Byte c.2.2) → (∀ c ∈ zs, Byte c.2.2) → cmpC xs ys ≤ 0 → cmpC ys zs ≤ 0 → cmpC xs zs ≤ 0
 | [], _, _, _, _, _, _, _, _, _, _, _ => by simp [cmpC]
 | _ :: _, _, [], _, _, _, _, _, _, _, _, _ => by simp [cmpC]
 | x :: xs, [], z :: zs, m, h1, h2, _, _, _, _, _, _ => by
   have : m = 0 := by simpa [validFrom] using h2
   subst this
   simp [validFrom] at h1
 | x :: xs, y :: ys, z :: zs, m, h1, h2, h3, b1, b2, b3, hxy, hyz => by
   rw [cmpC] at hxy hyz ⊢
   by_cases e1 : cellCmp x y = 0
   ·rw [if_neg (by rw [e1]; decide)] at hxy
    obtain rfl := cellCmp_same e1 (b1 _ (List.mem_cons_self ..)) (b2 _ (List.mem_cons_self ..))
    by_cases e2 : cellCmp x z = 0
    ·rw [if_neg (by rw [e2]; decide)] at hyz ⊢
     obtain rfl := cellCmp_same e2 (b1 _ (List.mem_cons_self ..)) (b3 _ (List.mem_cons_self ..)); rw [validFrom] at h1 h2 h3
     split at h1
     ·cases h1
     ·rename_i hn
      rw [if_neg hn] at h2 h3; exact cmpC_trans xs ys zs _ h1 h2 h3 (fun c hm => b1 c (List.mem_cons_of_mem _ hm)) (fun c hm => b2 c (List.mem_cons_of_mem _ hm)) (fun c hm => b3 c (List.mem_cons_of_mem _ hm)) hxy hyz
    ·rw [if_pos e2] at hyz ⊢
     exact hyz
   ·rw [if_pos e1] at hxy
    have l1 : cellLt x y := cellCmp_lt.1 (by rcases cellCmp_vals x y with h | h | h; exact h; exact absurd h e1; omega)
    by_cases e2 : cellCmp y z = 0
    ·obtain rfl := cellCmp_same e2 (b2 _ (List.mem_cons_self ..)) (b3 _ (List.mem_cons_self ..))
     rw [if_pos e1]; exact hxy
    ·rw [if_pos e2] at hyz
     have l2 : cellLt y z := cellCmp_lt.1 (by rcases cellCmp_vals y z with h | h | h; exact h; exact absurd h e2; omega); have l3 := cellCmp_lt.2 (cellLt_trans l1 l2); rw [l3, if_pos (by decide)]; decide
end
section
open Go Go.RowKit Go.Shelf
attribute [local go_sem] Oper.semAt_some
section
variable {P : Program} {ops : Array Oper} {Q : Exit → Act → World → Prop} {n k : Nat}
theorem upon_more {o : Oper} {a : Act} {K K' : Act → World → Prop} {r : Result Next} (hK : ∀ a w, K a w → K' a w) (h : o.upon P a K Q r) : o.upon P a K' Q r := by
 cases r with
 | ok x w' =>
   cases x <;> simp only [Oper.upon] at h ⊢ <;>
    first
     | exact hK _ _ h
     | exact Calls.mono h (fun e w'' h' => by cases e <;> first | exact hK _ _ h' | exact h')
     | exact Rows.mono h (fun v w'' h' => hK _ _ h')
     | exact h
 | halt x w' => cases x <;> simp only [Oper.upon] at h ⊢ <;> exact h
theorem wpOpsIn_of (hd : noDefer ops = true) (hQ : ¬ LetsOut Q) : ∀ (l : List Nat) (a : Act) (w : World), wpOps P ops Q l a w → wpOpsIn (Fence.wide.inRound k) n P ops Q l a w
 | [], a, w, h => h
 | i :: rest, a, w, h => by
   unfold wpOps at h
   unfold wpOpsIn
   cases hi : ops[i]? with
   | none =>
     simp only [hi] at h ⊢; exact wpOpsIn_of hd hQ rest a w h
   | some o =>
     simp only [hi] at h ⊢
     split
     ·rename_i hw
      simp only [hw, if_true] at h
      rcases h with h | h
      ·refine ⟨fun _ _ => trivial, ?_⟩
       have e : o.semAt (Fence.wide.inRound k).round a.eval = execOp a.eval o := Oper.semAt_some k _ _ (noDefer_spec hd hi); rw [e]; exact upon_wide (upon_more (fun a' w' h' => wpOpsIn_of hd hQ rest a' w' h') h)
      ·exact absurd h.2 hQ
     ·rename_i hw
      refine ⟨fun _ _ => trivial, wpOpsIn_of hd hQ rest _ _ ?_⟩
      simpa [hw] using h
theorem wpIn_region_round {id : Nat} {a : Act} {w : World} (hd : noDefer ops = true) (h : wpList P ops (fun e a w => e = .normal ∧ Q .normal a w) ops.toList a w) : (Code.region id ops false).wpIn (Fence.wide.inRound k) n P Q a w := by
 have h2 : wpOps P ops (fun e a w => e = .normal ∧ Q .normal a w) (List.range ops.size) a w := by rw [List.range_eq_range', ← Array.length_toList, wpOps_eq_wpList ops.toList 0 (by simp)]; exact h
 have h3 : wpOpsIn (Fence.wide.inRound k) n P ops (fun e a w => e = .normal ∧ Q .normal a w) (List.range ops.size) a w := wpOpsIn_of hd (fun h => by simp [LetsOut] at h) _ _ _ h2; exact wpIn_mono (wpIn_region h3) (fun e a w h => h.1 ▸ h.2)
end
theorem wpIn_range_pan {P : Program} {n : Nat} {g : Operand} {ps : Array Tmp} {assign body : Code} {Q : Exit → Act → World → Prop} {a : Act} {w : World} {gf : Nat} {first : Array Value}
  (hg : a.eval g = .func (.func gf) first #[]) (eg : ∀ args w, (callFunc gf args).run P w = .ok (.enter gf args) w)
  (h : ∀ (l D : Nat) (ready busy done : Obj) (W1 : World), D = w.heap.size → l = w.heap.size + 1 → W1 = (w.alloc (.deferred (some []))).alloc ready → ready.isCells = false → busy.isCells = false → done.isCells = false →
    (∀ (args : Array Value) (W : World) (R : Ending → World → Prop), args.size = ps.size → W.heap[l]? = some ready →
      assign.wpIn (Fence.wide.inRound l) (n - 1 - 1) P (Exit.then (fun a₁ W₁ => W₁.heap[l]? = some ready ∧ body.wpIn (Fence.wide.inRound l) (n - 1 - 1) P (fun e _ W₂ => e = .normal ∧ W₂.heap[l]? = some busy ∧ R (.returned (.bool true)) (W₂.putObj l ready)) a₁ (W₁.putObj l busy)) (fun _ _ _ => False))
       { tmps := (ps.zip args).foldl (fun t (p, v) => t.setIfInBounds p v) a.tmps, defers := [] } W → YieldAt Fence.wide (n - 1 - 1) P l args W R) →
    CallsIn Fence.wide (n - 1) P gf (first ++ #[.func (.yield l) #[] #[]]) W1 (fun e W' => match e with
     | .returned _ => W'.heap[l]? = some ready ∧ Q .normal { a with defers := { target := .collected D, args := #[] } :: a.defers } (W'.putObj l done)
     | .panicked chain => Q (.panic chain) { a with defers := { target := .collected D, args := #[] } :: a.defers } W'
     | .outgrown => False)) :
  (Code.rangeFunc g ps assign body).wpIn Fence.wide n P Q a w := by
 refine wpIn_rangeFunc ?_
 intro fn hfn
 have e0 : Fence.wide.round = none := rfl; rw [e0]
 obtain ⟨rec, hrec⟩ : ∃ rec : LoopState → Option Code → Loop, rec = fun st pe => { state := st, pending := pe, fn, tmps := a.tmps, params := ps, assign, body, defers := w.heap.size } := ⟨_, rfl⟩
 obtain ⟨W1, hW1⟩ : ∃ W1, W1 = (w.alloc (.deferred (some []))).alloc (.loop (rec .ready none)) := ⟨_, rfl⟩
 refine ⟨w.heap.size + 1, [{ target := .collected w.heap.size, args := #[] }], W1, { target := .fn (.func gf) #[], args := first ++ #[.func (.yield (w.heap.size + 1)) #[] #[]] }, W1, gf, first ++ #[.func (.yield (w.heap.size + 1)) #[] #[]], W1, ?_, ?_, ?_, ?_, fun h => (by cases h), ?_⟩
 ·rw [hW1, hrec]; exact run_enterLoop_outer _ _ _ _ _
 ·simp only [resolve, hg]
  simp [go_sem]
 ·intro f' _; trivial
 ·simp [invoke, go_sem, eg]
 ·refine (h _ _ (.loop (rec .ready none)) (.loop (rec .busy none)) (.loop (rec .exhausted none)) W1 rfl rfl hW1 rfl rfl rfl ?_).mono ?_
  ·intro args W R hs hl hw
   have hy := run_yield (P := P) (args := args) hl (by rw [hrec]; exact hs)
   have hb : ∀ W₁ : World, W₁.heap[w.heap.size + 1]? = some (.loop (rec .ready none)) → (Instr.beginRound (w.heap.size + 1)).run P W₁ = .ok () (W₁.putObj (w.heap.size + 1) (.loop (rec .busy none))) := fun W₁ h1 => by
    have := run_beginRound (P := P) h1 (by rw [hrec]); rw [this, hrec]
   have he : ∀ W₂ : World, W₂.heap[w.heap.size + 1]? = some (.loop (rec .busy none)) → (Instr.endRound (w.heap.size + 1) none).run P W₂ = .ok (.bool true) (W₂.putObj (w.heap.size + 1) (.loop (rec .ready none))) := fun W₂ h2 => by
    have := run_endRound (P := P) none h2; rw [this, hrec]
    rfl
   rw [hrec] at hy; refine ⟨fn, _, assign, body, hy, roundIn_of_wpIn hfn (wpIn_mono hw ?_)⟩; rintro e a1 W2 hq
   cases e with
   | normal =>
     obtain ⟨hl1, hbody⟩ := hq; refine ⟨_, hb _ hl1, wpIn_mono hbody ?_⟩; rintro e2 a2 W3 ⟨rfl, hl3, hR⟩; exact ⟨_, _, he _ hl3, hR⟩
   | ret => exact hq.elim
   | exit id => exact hq.elim
   | goto t => exact hq.elim
   | panic ch => exact hq.elim
   | outgrown => exact hq.elim
  ·rintro e W' hq
   cases e with
   | returned v =>
     obtain ⟨hl, hQ⟩ := hq; refine ⟨none, _, ?_, hQ⟩; have := run_endLoop (P := P) hl (by rw [hrec]; simp); rw [this, hrec]
   | panicked chain => exact hq
   | outgrown => exact hq.elim
end
section
open Go Go.RowKit
def keyC (c : Cel) : List UInt8 × Int := ((strOfNums c.2.2).toList, srt c.2.1)
theorem ltO_iff_key (x y : Cel) : ltO x y = true ↔ Op.bytesLess (keyC x).1 (keyC y).1 = true ∨ ((keyC x).1 = (keyC y).1 ∧ (keyC x).2 < (keyC y).2) := by
 rw [ltO, decide_eq_true_eq, opCmp_lt]; rfl
theorem ltO_irrefl (x : Cel) : ltO x x = false := by
 cases h : ltO x x with
 | false => rfl
 | true => rw [ltO_iff_key, bl_irrefl] at h; simp at h
theorem ltO_asymm {x y : Cel} (h : ltO x y = true) : ltO y x = false := by
 cases h2 : ltO y x with
 | false => rfl
 | true => have := ltO_trans h h2; rw [ltO_irrefl] at this; cases this
theorem srt_two (t : Int) : srt t = 0 ∨ srt t = 1 := by unfold srt; split <;> simp
theorem ltO_tri {x y : Cel} (hk : keyC x ≠ keyC y) (h : ltO x y = false) : ltO y x = true := by
 have h' : ¬ ltO x y = true := by rw [h]; simp
 rw [ltO_iff_key] at h' ⊢
 by_cases e : (keyC x).1 = (keyC y).1
 ·refine .inr ⟨e.symm, ?_⟩
  have n : ¬ (keyC x).2 < (keyC y).2 := fun z => h' (.inr ⟨e, z⟩)
  have n2 : (keyC x).2 ≠ (keyC y).2 := fun z => hk (Prod.ext e z)
  omega
 ·exact .inl (bl_tri _ _ (by simpa using fun z => h' (.inl z)) e)
def putL (o : Cel) : Bool → List Cel → List Cel
 | done, [] => if done then [] else [o]
 | done, x :: r => if keyC x = keyC o then putL o done r else if !done && ltO o x then o :: x :: putL o true r else x :: putL o done r
def putO (cs : List Cel) (o : Cel) : List Cel := putL o (o.1 == 0) cs
theorem putL_done (o : Cel) : ∀ cs : List Cel, putL o true cs = cs.filter (fun x => decide (keyC x ≠ keyC o))
 | [] => rfl
 | x :: r => by
   rw [putL, putL_done o r, List.filter_cons]
   by_cases e : keyC x = keyC o <;> simp [e]
theorem putL_mem (o : Cel) : ∀ (cs : List Cel) (x : Cel), x ∈ putL o false cs ↔ x = o ∨ (x ∈ cs ∧ keyC x ≠ keyC o)
 | [], x => by simp [putL]
 | y :: r, x => by
   have ih := putL_mem o r x; rw [putL]
   by_cases e : keyC y = keyC o
   ·rw [if_pos e, ih, List.mem_cons]
    constructor
    ·rintro (h | h)
     ·exact .inl h
     ·exact .inr ⟨.inr h.1, h.2⟩
    ·rintro (h | ⟨h | h, h2⟩)
     ·exact .inl h
     ·exact absurd (h ▸ e) h2
     ·exact .inr ⟨h, h2⟩
   ·rw [if_neg e]
    by_cases l : ltO o y = true
    ·rw [if_pos (by simp [l]), putL_done]
     simp only [List.mem_cons, List.mem_filter, decide_eq_true_eq]
     constructor
     ·rintro (h | h | h)
      ·exact .inl h
      ·exact .inr ⟨.inl h, by rw [h]; exact e⟩
      ·exact .inr ⟨.inr h.1, h.2⟩
     ·rintro (h | ⟨h | h, h2⟩)
      ·exact .inl h
      ·exact .inr (.inl h)
      ·exact .inr (.inr ⟨h, h2⟩)
    ·rw [if_neg (by simp [l]), List.mem_cons, ih, List.mem_cons]
     constructor
     ·rintro (h | h | h)
      ·exact .inr ⟨.inl h, by rw [h]; exact e⟩
      ·exact .inl h
      ·exact .inr ⟨.inr h.1, h.2⟩
     ·rintro (h | ⟨h | h, h2⟩)
      ·exact .inr (.inl h)
      ·exact .inl h
      ·exact .inr (.inr ⟨h, h2⟩)
def Asc (cs : List Cel) : Prop := cs.Pairwise (fun x y => ltO x y = true)
theorem Asc.filter {cs : List Cel} (h : Asc cs) (p : Cel → Bool) : Asc (cs.filter p) := List.Pairwise.filter p h
theorem putL_asc (o : Cel) : ∀ cs : List Cel, Asc cs → Asc (putL o false cs)
 | [], _ => by simp [putL, Asc]
 | y :: r, h => by
   have h1 := List.pairwise_cons.1 h; have ih := putL_asc o r h1.2; rw [putL]
   by_cases e : keyC y = keyC o
   ·rw [if_pos e]; exact ih
   ·rw [if_neg e]
    by_cases l : ltO o y = true
    ·rw [if_pos (by simp [l]), putL_done]
     refine List.Pairwise.cons (fun z hz => ?_) (List.Pairwise.cons (fun z hz => h1.1 z (List.mem_filter.1 hz).1) (h1.2.filter _))
     rcases List.mem_cons.1 hz with rfl | hz
     ·exact l
     ·exact ltO_trans l (h1.1 z (List.mem_filter.1 hz).1)
    ·rw [if_neg (by simp [l])]
     refine List.Pairwise.cons (fun z hz => ?_) ih
     rcases (putL_mem o r z).1 hz with rfl | hz
     ·exact ltO_tri (fun x => e x.symm) (by simpa using l)
     ·exact h1.1 z hz.1
theorem asc_unique : ∀ (a b : List Cel), Asc a → Asc b → (∀ x, x ∈ a ↔ x ∈ b) → a = b
 | [], [], _, _, _ => rfl
 | [], y :: s, _, _, h => by have := (h y).2 (List.mem_cons_self ..); cases this
 | x :: r, [], _, _, h => by have := (h x).1 (List.mem_cons_self ..); cases this
 | x :: r, y :: s, ha, hb, h => by
   have h1 := List.pairwise_cons.1 ha; have h2 := List.pairwise_cons.1 hb
   have e : x = y := by
    rcases List.mem_cons.1 ((h x).1 (List.mem_cons_self ..)) with h3 | h3
    ·exact h3
    ·rcases List.mem_cons.1 ((h y).2 (List.mem_cons_self ..)) with h4 | h4
     ·exact h4.symm
     ·have := ltO_asymm (h1.1 y h4)
      rw [h2.1 x h3] at this
      cases this
   subst e; rw [asc_unique r s h1.2 h2.2 (fun z => ?_)]
   constructor
   ·intro hz
    rcases List.mem_cons.1 ((h z).1 (List.mem_cons_of_mem _ hz)) with h3 | h3
    ·subst h3; have := h1.1 z hz; rw [ltO_irrefl] at this; cases this
    ·exact h3
   ·intro hz
    rcases List.mem_cons.1 ((h z).2 (List.mem_cons_of_mem _ hz)) with h3 | h3
    ·subst h3; have := h2.1 z hz; rw [ltO_irrefl] at this; cases this
    ·exact h3
def findK (cs : List Cel) (k : List UInt8 × Int) : Option Cel := cs.find? (fun x => decide (keyC x = k))
def hasK (cs : List Cel) (k : List UInt8 × Int) : Bool := cs.any (fun x => decide (keyC x = k))
end
section
open Go Go.RowKit Go.Maps
abbrev OKey := ByteArray × Int
theorem laidOk : laidOutB Tryz.prog = true := by kernel_rfl
theorem rowOk : (116 : TypeId) < Tryz.prog.types.size := of_decide_eq_true (by kernel_rfl)
theorem keyAtOk : Tryz.prog.keyTypeAt 3 116 = true := by kernel_rfl
theorem lawOkK : WideMaps.KeyLaw Tryz.prog 116 := deep_law_laid laidOk (m := 3) (by decide) rowOk keyAtOk (by kernel_rfl)
theorem lawOk : Keyed Tryz.prog 116 := Keyed.of_law lawOkK
theorem typOk : Tryz.prog.keyType 116 = true := by kernel_rfl
theorem cellsOk : Tryz.prog.cellsOf 116 = 2 := by kernel_rfl
theorem cellsStrO : Tryz.prog.cellsOf 9 = 1 := by kernel_rfl
theorem cellsSrt : Tryz.prog.cellsOf 114 = 1 := by kernel_rfl
def okk (f : OKey) : Lit := .string (keyBytes [.string f.1.data.toList, .int .i64 f.2])
theorem nTypesO : ∃ n, Tryz.prog.types.size = n + 1 := by
 have h : 116 < Tryz.prog.types.size := rowOk
 generalize Tryz.prog.types.size = m at h
 exact ⟨m - 1, by omega⟩
theorem keyOk (f : OKey) (hs : f.1.size ≤ 1000000) (h0 : 0 ≤ f.2) (h1 : f.2 ≤ 1000000) : keyOf Tryz.prog 116 (.agg #[.string f.1, .int .i64 f.2]) = some (okk f) := by
 obtain ⟨n, hn⟩ := nTypesO
 have hx : f.1.size ≤ maxLen := by unfold maxLen; omega
 have hw : (Lit.int .i64 f.2).wf = true := WalkArith.wf_i64 (by omega); exact keyPair Tryz.prog 116 9 114 _ _ _ rfl Tryz.underlying116 rfl rfl rfl rfl (by decide) (by decide) Tryz.underlying9 Tryz.underlying114 cellsOk cellsStrO cellsSrt typOk n hn f.1 f.2 hx hw
theorem ok_inj {f g : OKey} (hf : f.1.size ≤ 1000000 ∧ 0 ≤ f.2 ∧ f.2 ≤ 1000000) (hg : g.1.size ≤ 1000000 ∧ 0 ≤ g.2 ∧ g.2 ≤ 1000000) (h : okk f = okk g) : f = g := by
 have h1 := keyOk f hf.1 hf.2.1 hf.2.2; have h2 := keyOk g hg.1 hg.2.1 hg.2.2; rw [← h] at h2; have := lawOk.inj h1 h2; obtain ⟨f1, f2⟩ := f; obtain ⟨g1, g2⟩ := g
 simpa using this
theorem keyOk_inv (key : Value) (kl : Lit) (h : keyOf Tryz.prog 116 key = some kl) : ∃ x : OKey, key = .agg #[.string x.1, .int .i64 x.2] := by
 obtain ⟨n, hn⟩ := nTypesO; obtain ⟨x, y, h⟩ := keyPair_inv Tryz.prog 116 9 114 _ _ _ rfl Tryz.underlying116 rfl rfl rfl rfl (by decide) (by decide) Tryz.underlying9 Tryz.underlying114 cellsOk cellsStrO cellsSrt n hn h; exact ⟨(x, y), h⟩
end
section
open Go Go.RowKit Go.Sort
theorem below_grow {w : World} (q : Nat) (os : Array Obj) : Below w.heap.size w (grow (w.drewN q) os) :=
 ⟨rfl, rfl, rfl, by simp [grow], fun k hk => (heap_grow_old (w.drewN q) os hk).trans rfl⟩
theorem wrap_small {x : Int} (h0 : -9223372036854775808 ≤ x) (h1 : x ≤ 9223372036854775807) : IntKind.i64.wrap x = x := by rw [IntKind.wrap_i64]; omega
set_option maxHeartbeats 1000000 in
theorem implTab_any (p : Option Addr) (c : Nat) (cs : List Cel) (w : World) (hn : cs.length + tl cs ≤ 1000000000) (hc : OIn w p cs) :
  Calls Tryz.prog 33 #[.slice p cs.length c] w fun e w' => e = .returned (.bool (tabB cs)) ∧ Below w.heap.size w w' := by
 have HC : Hid (OIn w p cs) := hc; clear hc
 by_cases hl : cs.length ≤ 200
 ·have hl' : ¬ (200 : Int) < cs.length := by omega
  have HV : Hid (tabB cs = (chainO none cs && cs.any comC)) := by show _ = _; simp [tabB, hl]
  have HF : Hid (∀ b, b = tabB cs → Ending.returned (.bool b) = .returned (.bool (tabB cs))) := fun b h => ret_bool h
  go_enter Tryz.func33, Tryz.ntmps33
  go_wp2
  clear hl'
  go_loopw [3, 11] (fun s i wr => ∃ (k : Nat) (b : Bool), k ≤ cs.length ∧ s = .bool b ∧ i = .int .i64 k ∧ Hid (tabB cs = (chainO (befO cs k) (cs.drop k) && (b || (cs.drop k).any comC))) ∧ Hid (Below w.heap.size w wr)) (fun _ i _ => cs.length - (intOf i).toNat)
  case atStart => exact ⟨0, false, Nat.zero_le _, rfl, rfl, by show _ = _; rw [HV.out]; simp [befO], Below.refl _ _⟩
  case round =>
   obtain ⟨k, b, hk, rfl, rfl, HQ, HB⟩ := hrel
   by_cases hlt : k < cs.length
   ·obtain ⟨g, o, rfl, hcs⟩ := HC.out (by omega)
    have hat := (hcs k hlt).below HB.out
    have hpr : 0 < k → OAt wr g (o + (k - 1) * 3) (cs.getD (k - 1) Cel.none) := fun h => (hcs (k - 1) (by omega)).below HB.out
    have hbe : 0 < k → befO cs k = some (cs.getD (k - 1) Cel.none) := fun h => by simp [befO]; omega
    have hb0 : k = 0 → befO cs k = none := fun h => by simp [befO, h]
    have hlk := tl_at cs k hlt
    have hlp : 0 < k → (cs.getD (k - 1) Cel.none).2.2.length ≤ tl cs := fun h => tl_at cs (k - 1) (by omega)
    have HD : Hid (tabB cs = ((okC (cs.getD k Cel.none) && (match befO cs k with | none => true | some x => ltO x (cs.getD k Cel.none)) && chainO (befO cs (k + 1)) (cs.drop (k + 1))) && (b || (comC (cs.getD k Cel.none) || (cs.drop (k + 1)).any comC)))) := by
     show _ = _
     rw [HQ.out, chainO_at cs k hlt, drop_at cs k hlt]; rfl
    obtain ⟨x, ex⟩ : ∃ x, x = cs.getD k Cel.none := ⟨_, rfl⟩
    obtain ⟨y, ey⟩ : ∃ y, y = cs.getD (k - 1) Cel.none := ⟨_, rfl⟩
    rw [← ex] at hat HD hlk; rw [← ey] at hpr hbe hlp; obtain ⟨q, qc, h0, h1, h2, h3⟩ := hat; obtain ⟨x0, x1, x2⟩ := x; simp only at h0 h1 h2 h3 hlk; have hW : Below wr.heap.size wr (wr.alloc (Obj.cells #[.slice q x2.length qc, .int .i64 x0, .int .i64 x1] 120)) := (Below.refl _ _).alloc (Nat.le_refl _) _
    have HI : Hid (∀ W, Below wr.heap.size wr W → Calls Tryz.prog 99 #[.agg #[.slice q x2.length qc, .int .i64 x0, .int .i64 x1]] W fun e w' => e = .returned (.bool (okC (x0, x1, x2))) ∧ Below W.heap.size W w') := fun W hB => isOp_any x0 x1 q x2.length qc x2 W rfl (by omega) (h3.below hB)
    have HCV : Hid (∀ W, Below wr.heap.size wr W → (convert 22 9 (.slice q x2.length qc)).run Tryz.prog W = .ok (.string (strOfNums x2)) W) := fun W hB => conv_str (h3.below hB) x2.length qc rfl 9 Tryz.underlying9
    have HB0 : Hid (Below w.heap.size w (wr.alloc (Obj.cells #[.slice q x2.length qc, .int .i64 x0, .int .i64 x1] 120))) := Below.on HB.out hW; have HW : Hid _ := hW; have G : Box3 (wr.alloc (Obj.cells #[.slice q x2.length qc, .int .i64 x0, .int .i64 x1] 120)) wr.heap.size (.slice q x2.length qc) (.int .i64 x0) (.int .i64 x1) := Box3.of_block (t := 120) (heap_alloc_new _ _); obtain ⟨c0, c1, c2, _⟩ := G; have HOK : Hid (okC (x0, x1, x2) = okC (x0, x1, x2)) := rfl; have HCO : Hid (comC (x0, x1, x2) = ((strOfNums x2).toList == [44])) := rfl; have HXX : Hid ((x0, x1, x2) = cs.getD k Cel.none) := ex; clear ex hlk
    obtain ⟨l2, el2⟩ : ∃ l, l = x2.length := ⟨_, rfl⟩
    rw [← el2] at h2 HI HCV HB0 HW c0 c1 c2 hW; have HL2 : Hid (l2 = x2.length) := el2; clear el2 hW
    obtain ⟨sx, esx⟩ : ∃ s, s = strOfNums x2 := ⟨_, rfl⟩
    rw [← esx] at HCV HCO; have HSX : Hid _ := esx; clear esx
    cases hok : okC (x0, x1, x2) with
    | false =>
      rw [hok] at HI HD
      have HZ : Hid (tabB cs = false) := by show _ = _; rw [HD.out]; simp
      clear hok hcs hpr hbe hb0 hlp h3 HC HV HQ HD HCV HCO HSX HL2 HXX HOK; go_wp2_with fail; refine wp_region_held_drew (S := fun W => W.cell? ⟨wr.heap.size, 0, none⟩ = some (.slice q l2 qc) ∧ W.cell? ⟨wr.heap.size, 1, none⟩ = some (.int .i64 x0) ∧ W.cell? ⟨wr.heap.size, 2, none⟩ = some (.int .i64 x1)) (by kernel_rfl) ?_ (fun hHeld => ?_)
      ·exact ⟨c0, c1, c2⟩
      refine hTk (i := 0) (v := .agg #[.slice q l2 qc, .int .i64 x0, .int .i64 x1]) (some 16) (fun o ho W hSw => ?y0) (by assumption) ?_
      case y0 => cases ho; simp [execOp, go_sem, Act.eval, hSw.1, hSw.2.1, hSw.2.2]
      simp only [Act.put, zzA, zzB, zzC]; refine hCall (i := 1) (some 17) (by kernel_rfl) (by kernel_rfl) (by kernel_rfl) (fun o ho => ?y1) (HI.out _ HW.out.drew) ?_
      case y1 => cases ho; simp [execOp, go_sem, Act.eval]
      intro w1 hb1
      have kk : w1.cell? ⟨wr.heap.size, 0, none⟩ = some (.slice q l2 qc) ∧ w1.cell? ⟨wr.heap.size, 1, none⟩ = some (.int .i64 x0) ∧ w1.cell? ⟨wr.heap.size, 2, none⟩ = some (.int .i64 x1) := ⟨(hb1.cell (p := ⟨_, _, none⟩) (by simp)).trans c0, (hb1.cell (p := ⟨_, _, none⟩) (by simp)).trans c1, (hb1.cell (p := ⟨_, _, none⟩) (by simp)).trans c2⟩
      refine ⟨kk, ?_⟩; clear hHeld; simp only [Act.put, zzA, zzB, zzC]; refine hTk (i := 2) (v := .bool true) (some 18) (fun o ho W hSw => ?y2) (by assumption) ?_
      case y2 => cases ho; simp [execOp, go_sem, Act.eval]
      simp only [Act.put, zzA, zzB, zzC]; refine hTk (i := 3) (v := .bool true) (some 19) (fun o ho W hSw => ?y3) (by assumption) ?_
      case y3 => cases ho; simp [execOp, go_sem, Act.eval]
      simp only [Act.put, zzA, zzB, zzC]; refine hSk (i := 4) (some 20) (by assumption) ?_; refine hSk (i := 5) (some 21) (by assumption) ?_; refine hSk (i := 6) (some 22) (by assumption) ?_; refine hSk (i := 7) (some 23) (by assumption) ?_; simp only [Act.put, zzA, zzB, zzC]; refine hSk (i := 8) (some 24) (by assumption) ?_; refine hSk (i := 9) (some 25) (by assumption) ?_; refine hSk (i := 10) (some 26) (by assumption) ?_; refine hSk (i := 11) (some 27) (by assumption) ?_; simp only [Act.put, zzA, zzB, zzC]; refine hSk (i := 12) (some 28) (by assumption) ?_; refine hSk (i := 13) (some 29) (by assumption) ?_; refine hSk (i := 14) (some 30) (by assumption) ?_; refine hSk (i := 15) (some 31) (by assumption) ?_; simp only [Act.put, zzA, zzB, zzC]; refine hTk (i := 16) (v := .bool true) (some 32) (fun o ho W hSw => ?y16) (by assumption) ?_
      case y16 => cases ho; simp [execOp, go_sem, Act.eval]
      simp only [Act.put, zzA, zzB, zzC]; refine wpAnyH_done (by kernel_rfl) ?_ _
      all_goals go_wp2_with fail
      all_goals go_ret
      all_goals exact ⟨HF.out _ HZ.out.symm, (HB0.out.drew).trans (hb1.mono (Nat.le_trans HB.out.size (by simp)))⟩
    | true =>
      rw [hok] at HI HD; clear hok HOK
      by_cases hk0 : k = 0
      ·subst hk0
       have e0 := hb0 rfl; simp only [Nat.zero_mul, Nat.add_zero] at h0 h1 h2; rw [e0] at HD
       have HZ : Hid (tabB cs = (chainO (befO cs 1) (cs.drop 1) && ((b || (sx.toList == [44])) || (cs.drop 1).any comC))) := by
        show _ = _
        rw [HD.out, HCO.out]; simp [Bool.or_assoc]
       clear e0 hcs hpr hbe hb0 hlp h3 HC HV HQ HD HCO HSX HL2 HXX; go_wp2_with fail; refine wp_region_held_drew (S := fun W => W.cell? ⟨wr.heap.size, 0, none⟩ = some (.slice q l2 qc) ∧ W.cell? ⟨wr.heap.size, 1, none⟩ = some (.int .i64 x0) ∧ W.cell? ⟨wr.heap.size, 2, none⟩ = some (.int .i64 x1)) (by kernel_rfl) ?_ (fun hHeld => ?_)
       ·exact ⟨c0, c1, c2⟩
       refine hTk (i := 0) (v := .agg #[.slice q l2 qc, .int .i64 x0, .int .i64 x1]) (some 16) (fun o ho W hSw => ?y0) (by assumption) ?_
       case y0 => cases ho; simp [execOp, go_sem, Act.eval, hSw.1, hSw.2.1, hSw.2.2]
       simp only [Act.put, zzA, zzB, zzC]; refine hCall (i := 1) (some 17) (by kernel_rfl) (by kernel_rfl) (by kernel_rfl) (fun o ho => ?y1) (HI.out _ HW.out.drew) ?_
       case y1 => cases ho; simp [execOp, go_sem, Act.eval]
       intro w1 hb1
       have kk : w1.cell? ⟨wr.heap.size, 0, none⟩ = some (.slice q l2 qc) ∧ w1.cell? ⟨wr.heap.size, 1, none⟩ = some (.int .i64 x0) ∧ w1.cell? ⟨wr.heap.size, 2, none⟩ = some (.int .i64 x1) := ⟨(hb1.cell (p := ⟨_, _, none⟩) (by simp)).trans c0, (hb1.cell (p := ⟨_, _, none⟩) (by simp)).trans c1, (hb1.cell (p := ⟨_, _, none⟩) (by simp)).trans c2⟩
       refine ⟨kk, ?_⟩; clear hHeld; simp only [Act.put, zzA, zzB, zzC]; refine hTk (i := 2) (v := .bool false) (some 18) (fun o ho W hSw => ?y2) (by assumption) ?_
       case y2 => cases ho; simp [execOp, go_sem, Act.eval]
       simp only [Act.put, zzA, zzB, zzC]; refine hTk (i := 3) (v := .bool false) (some 19) (fun o ho W hSw => ?y3) (by assumption) ?_
       case y3 => cases ho; simp [execOp, go_sem, Act.eval]
       simp only [Act.put, zzA, zzB, zzC]; refine hTk (i := 4) (v := .int .i64 0) (some 20) (fun o ho W hSw => ?y4) (by assumption) ?_
       case y4 => cases ho; simp [execOp, go_sem, Act.eval]
       simp only [Act.put, zzA, zzB, zzC]; refine hTk (i := 5) (v := .bool false) (some 21) (fun o ho W hSw => ?y5) (by assumption) ?_
       case y5 => cases ho; simp [execOp, go_sem, Act.eval]
       simp only [Act.put, zzA, zzB, zzC]; refine hTk (i := 6) (v := .bool false) (some 22) (fun o ho W hSw => ?y6) (by assumption) ?_
       case y6 => cases ho; simp [execOp, go_sem, Act.eval]
       simp only [Act.put, zzA, zzB, zzC]; refine hSk (i := 7) (some 23) (by assumption) ?_; simp only [Act.put, zzA, zzB, zzC]; refine hSk (i := 8) (some 24) (by assumption) ?_; refine hSk (i := 9) (some 25) (by assumption) ?_; refine hSk (i := 10) (some 26) (by assumption) ?_; refine hSk (i := 11) (some 27) (by assumption) ?_; simp only [Act.put, zzA, zzB, zzC]; refine hSk (i := 12) (some 28) (by assumption) ?_; refine hSk (i := 13) (some 29) (by assumption) ?_; refine hSk (i := 14) (some 30) (by assumption) ?_; simp only [Act.put, zzA, zzB, zzC]; refine hTk (i := 15) (v := .bool false) (some 31) (fun o ho W hSw => ?y15) (by assumption) ?_
       case y15 => cases ho; simp [execOp, go_sem, Act.eval]
       simp only [Act.put, zzA, zzB, zzC]; refine hTk (i := 16) (v := .bool false) (some 32) (fun o ho W hSw => ?y16) (by assumption) ?_
       case y16 => cases ho; simp [execOp, go_sem, Act.eval]
       simp only [Act.put, zzA, zzB, zzC]; refine wpAnyH_done (by kernel_rfl) ?_ _
       all_goals
        have HB1 : Hid (Below w.heap.size w w1) := (HB0.out.drew).trans (hb1.mono (Nat.le_trans HB.out.size (by simp))); have cv := HCV.out w1 (HW.out.drew.trans (hb1.mono (by simp))); obtain ⟨k0, k1, k2⟩ := kk; clear hb1 HI HCV HW HB0 c0 c1 c2
        cases b with
        | true =>
          go_wp2_with fail; go_roundw
          case rel => exact ⟨1, true, by omega, by go_num, by go_num, by show _ = _; rw [HZ.out]; simp, HB1⟩
          case measure => simp [intOf]; omega
        | false =>
          go_wp2_with fail; go_roundw
          case rel => exact ⟨1, sx.toList == [44], by omega, by go_num, by go_num, by show _ = _; rw [HZ.out]; simp, HB1⟩
          case measure => simp [intOf]; omega
      ·obtain ⟨j, ej⟩ : ∃ j, k = j + 1 := ⟨k - 1, by omega⟩
       have hkj : ((k : Int) - 1) = (j : Int) := by omega
       have hk1 : 0 < k := by omega
       have hkd : decide (0 < k) = true := by simp; omega
       have hjl : j < cs.length := by omega
       have hjl' : (j : Int) < (cs.length : Int) := by omega
       have hj0 : (0 : Int) ≤ (j : Int) := by omega
       have hwrap : IntKind.i64.wrap ((k : Int) - 1) = (j : Int) := by rw [hkj]; exact wrap_small (by omega) (by omega)
       clear hkj; have e0 := hbe (by omega); have hpj := hpr (by omega); have hlj := hlp (by omega); rw [e0] at HD; rw [show k - 1 = j by omega] at hpj; obtain ⟨r, rc, d1, d2, d0, d3⟩ := hpj; obtain ⟨y0, y1, y2⟩ := y; simp only at d0 d1 d2 d3 hlj HD; have hg0 : g < wr.heap.size := World.block_lt_of_cell? _ _ d0
       have HCM : Hid (∀ W, Below wr.heap.size wr W → Calls Tryz.prog 55 #[.agg #[.slice r y2.length rc, .int .i64 y0, .int .i64 y1], .agg #[.slice q l2 qc, .int .i64 x0, .int .i64 x1]] W fun e w' => e = .returned (.int .i64 (opCmp (y0, y1, y2) (x0, x1, x2))) ∧ ∃ q os', w' = grow (W.drewN q) os') := fun W hB => compareOps_any y0 y1 x0 x1 r q y2.length l2 rc qc y2 x2 W rfl HL2.out (d3.below hB) (h3.below hB)
       obtain ⟨m2, em2⟩ : ∃ l, l = y2.length := ⟨_, rfl⟩
       rw [← em2] at HCM d0; have HLT : Hid (ltO (y0, y1, y2) (x0, x1, x2) = decide (opCmp (y0, y1, y2) (x0, x1, x2) < 0)) := rfl
       generalize opCmp (y0, y1, y2) (x0, x1, x2) = oc at HCM HLT
       have hW3 : Below wr.heap.size wr (wr.alloc (Obj.cells #[.slice q l2 qc, .int .i64 x0, .int .i64 x1] 120)) := HW.out; have d0 := (hW3.cell (p := ⟨_, _, none⟩) hg0).trans d0; have d1 := (hW3.cell (p := ⟨_, _, none⟩) hg0).trans d1; have d2 := (hW3.cell (p := ⟨_, _, none⟩) hg0).trans d2
       have hg0 : g < (wr.alloc (Obj.cells #[.slice q l2 qc, .int .i64 x0, .int .i64 x1] 120)).heap.size := by simp; omega
       have HEJ : Hid (k = j + 1) := ej; clear e0 hpr hbe hb0 hlp h3 HC HV HQ HSX HL2 HXX hcs em2 d3 ey hW3 ej hk0 hlj
       by_cases hoc : oc < 0
       ·have hoc' : decide (0 ≤ oc) = false := by simp; omega
        have HZ : Hid (tabB cs = (chainO (befO cs (k + 1)) (cs.drop (k + 1)) && ((b || (sx.toList == [44])) || (cs.drop (k + 1)).any comC))) := by
         show _ = _
         rw [HD.out, HLT.out, HCO.out]; simp [hoc, Bool.or_assoc]
        clear HD HLT HCO; go_wp2_with fail
        go_region_held3 (fun W => (W.cell? ⟨wr.heap.size, 0, none⟩ = some (.slice q l2 qc) ∧ W.cell? ⟨wr.heap.size, 1, none⟩ = some (.int .i64 x0) ∧ W.cell? ⟨wr.heap.size, 2, none⟩ = some (.int .i64 x1)) ∧ W.cell? ⟨g, o + j * 3, none⟩ = some (.slice r m2 rc) ∧ W.cell? ⟨g, o + j * 3 + 1, none⟩ = some (.int .i64 y0) ∧ W.cell? ⟨g, o + j * 3 + 2, none⟩ = some (.int .i64 y1)) (first | exact kk2 | exact kk | go_keep)
         (first | (go_at_call 99; refine (HI.out _ HW.out.drew).mono ?_; rintro e w1 ⟨rfl, hb1⟩; have kk : (w1.cell? ⟨wr.heap.size, 0, none⟩ = some (.slice q l2 qc) ∧ w1.cell? ⟨wr.heap.size, 1, none⟩ = some (.int .i64 x0) ∧ w1.cell? ⟨wr.heap.size, 2, none⟩ = some (.int .i64 x1)) ∧ w1.cell? ⟨g, o + j * 3, none⟩ = some (.slice r m2 rc) ∧ w1.cell? ⟨g, o + j * 3 + 1, none⟩ = some (.int .i64 y0) ∧ w1.cell? ⟨g, o + j * 3 + 2, none⟩ = some (.int .i64 y1) := ⟨⟨(hb1.cell (p := ⟨_, _, none⟩) (by simp)).trans c0, (hb1.cell (p := ⟨_, _, none⟩) (by simp)).trans c1, (hb1.cell (p := ⟨_, _, none⟩) (by simp)).trans c2⟩, ⟨(hb1.cell (p := ⟨_, _, none⟩) hg0).trans d0, (hb1.cell (p := ⟨_, _, none⟩) hg0).trans d1, (hb1.cell (p := ⟨_, _, none⟩) hg0).trans d2⟩⟩) | (go_at_call 55; refine (HCM.out _ (HW.out.drew.trans (hb1.mono (by simp)))).mono ?_; rintro e w2 ⟨rfl, q2, os2, rfl⟩; have kk2 : ((grow (w1.drewN q2) os2).cell? ⟨wr.heap.size, 0, none⟩ = some (.slice q l2 qc) ∧ (grow (w1.drewN q2) os2).cell? ⟨wr.heap.size, 1, none⟩ = some (.int .i64 x0) ∧ (grow (w1.drewN q2) os2).cell? ⟨wr.heap.size, 2, none⟩ = some (.int .i64 x1)) ∧ (grow (w1.drewN q2) os2).cell? ⟨g, o + j * 3, none⟩ = some (.slice r m2 rc) ∧ (grow (w1.drewN q2) os2).cell? ⟨g, o + j * 3 + 1, none⟩ = some (.int .i64 y0) ∧ (grow (w1.drewN q2) os2).cell? ⟨g, o + j * 3 + 2, none⟩ = some (.int .i64 y1) := ⟨⟨((below_grow q2 os2).cell (World.block_lt_of_cell? _ _ kk.1.1)).trans kk.1.1, ((below_grow q2 os2).cell (World.block_lt_of_cell? _ _ kk.1.2.1)).trans kk.1.2.1, ((below_grow q2 os2).cell (World.block_lt_of_cell? _ _ kk.1.2.2)).trans kk.1.2.2⟩, ((below_grow q2 os2).cell (World.block_lt_of_cell? _ _ kk.2.1)).trans kk.2.1, ((below_grow q2 os2).cell (World.block_lt_of_cell? _ _ kk.2.2.1)).trans kk.2.2.1, ((below_grow q2 os2).cell (World.block_lt_of_cell? _ _ kk.2.2.2)).trans kk.2.2.2⟩))
        all_goals
         have HB1 : Hid (Below w.heap.size w (grow (w1.drewN q2) os2)) := ((HB0.out.drew).trans (hb1.mono (Nat.le_trans HB.out.size (by simp)))).trans ((below_grow q2 os2).mono (Nat.le_trans HB.out.size (Nat.le_trans (by simp) hb1.size))); have cv := HCV.out _ (HW.out.drew.trans ((hb1.trans ((below_grow q2 os2).mono hb1.size)).mono (by simp))); obtain ⟨⟨k0, k1, k2⟩, _⟩ := kk2; clear kk hb1 HI HCM HCV HW HB0 c0 c1 c2 d0 d1 d2 hg0
         revert HB1 cv k0 k1 k2
         generalize grow (w1.drewN q2) os2 = w3
         intro HB1 cv k0 k1 k2
         cases b with
         | true =>
           go_wp2_with fail; go_roundw
           case rel => exact ⟨k + 1, true, by omega, by go_num, by go_num, by show _ = _; rw [HZ.out]; simp, HB1⟩
           case measure => simp [intOf]; omega
         | false =>
           go_wp2_with fail; go_roundw
           case rel => exact ⟨k + 1, sx.toList == [44], by omega, by go_num, by go_num, by show _ = _; rw [HZ.out]; simp, HB1⟩
           case measure => simp [intOf]; omega
       ·have hoc' : decide (0 ≤ oc) = true := by simp; omega
        have HZ : Hid (tabB cs = false) := by
         show _ = _
         rw [HD.out, HLT.out]; simp [hoc]
        clear HD HLT HCO HCV; go_wp2_with fail
        go_region_held3 (fun W => (W.cell? ⟨wr.heap.size, 0, none⟩ = some (.slice q l2 qc) ∧ W.cell? ⟨wr.heap.size, 1, none⟩ = some (.int .i64 x0) ∧ W.cell? ⟨wr.heap.size, 2, none⟩ = some (.int .i64 x1)) ∧ W.cell? ⟨g, o + j * 3, none⟩ = some (.slice r m2 rc) ∧ W.cell? ⟨g, o + j * 3 + 1, none⟩ = some (.int .i64 y0) ∧ W.cell? ⟨g, o + j * 3 + 2, none⟩ = some (.int .i64 y1)) (first | exact kk2 | exact kk | go_keep)
         (first | (go_at_call 99; refine (HI.out _ HW.out.drew).mono ?_; rintro e w1 ⟨rfl, hb1⟩; have kk : (w1.cell? ⟨wr.heap.size, 0, none⟩ = some (.slice q l2 qc) ∧ w1.cell? ⟨wr.heap.size, 1, none⟩ = some (.int .i64 x0) ∧ w1.cell? ⟨wr.heap.size, 2, none⟩ = some (.int .i64 x1)) ∧ w1.cell? ⟨g, o + j * 3, none⟩ = some (.slice r m2 rc) ∧ w1.cell? ⟨g, o + j * 3 + 1, none⟩ = some (.int .i64 y0) ∧ w1.cell? ⟨g, o + j * 3 + 2, none⟩ = some (.int .i64 y1) := ⟨⟨(hb1.cell (p := ⟨_, _, none⟩) (by simp)).trans c0, (hb1.cell (p := ⟨_, _, none⟩) (by simp)).trans c1, (hb1.cell (p := ⟨_, _, none⟩) (by simp)).trans c2⟩, ⟨(hb1.cell (p := ⟨_, _, none⟩) hg0).trans d0, (hb1.cell (p := ⟨_, _, none⟩) hg0).trans d1, (hb1.cell (p := ⟨_, _, none⟩) hg0).trans d2⟩⟩) | (go_at_call 55; refine (HCM.out _ (HW.out.drew.trans (hb1.mono (by simp)))).mono ?_; rintro e w2 ⟨rfl, q2, os2, rfl⟩; have kk2 : ((grow (w1.drewN q2) os2).cell? ⟨wr.heap.size, 0, none⟩ = some (.slice q l2 qc) ∧ (grow (w1.drewN q2) os2).cell? ⟨wr.heap.size, 1, none⟩ = some (.int .i64 x0) ∧ (grow (w1.drewN q2) os2).cell? ⟨wr.heap.size, 2, none⟩ = some (.int .i64 x1)) ∧ (grow (w1.drewN q2) os2).cell? ⟨g, o + j * 3, none⟩ = some (.slice r m2 rc) ∧ (grow (w1.drewN q2) os2).cell? ⟨g, o + j * 3 + 1, none⟩ = some (.int .i64 y0) ∧ (grow (w1.drewN q2) os2).cell? ⟨g, o + j * 3 + 2, none⟩ = some (.int .i64 y1) := ⟨⟨((below_grow q2 os2).cell (World.block_lt_of_cell? _ _ kk.1.1)).trans kk.1.1, ((below_grow q2 os2).cell (World.block_lt_of_cell? _ _ kk.1.2.1)).trans kk.1.2.1, ((below_grow q2 os2).cell (World.block_lt_of_cell? _ _ kk.1.2.2)).trans kk.1.2.2⟩, ((below_grow q2 os2).cell (World.block_lt_of_cell? _ _ kk.2.1)).trans kk.2.1, ((below_grow q2 os2).cell (World.block_lt_of_cell? _ _ kk.2.2.1)).trans kk.2.2.1, ((below_grow q2 os2).cell (World.block_lt_of_cell? _ _ kk.2.2.2)).trans kk.2.2.2⟩))
        all_goals go_wp2_with fail
        all_goals go_ret
        all_goals exact ⟨HF.out _ HZ.out.symm, ((HB0.out.drew).trans (hb1.mono (Nat.le_trans HB.out.size (by simp)))).trans ((below_grow q2 os2).mono (Nat.le_trans HB.out.size (Nat.le_trans (by simp) hb1.size)))⟩
   ·obtain rfl : k = cs.length := by omega
    have HQ' : Hid (tabB cs = b) := by
     have := HQ.out; rw [List.drop_length] at this
     show _ = _
     simpa [chainO] using this
    clear HQ HC HV
    go_wp2
    go_ret; exact ⟨HF.out _ HQ'.out.symm, HB.out⟩
 ·have hl' : (200 : Int) < cs.length := by omega
  have hv : tabB cs = false := by simp [tabB]; omega
  rw [hv]; clear hv
  go_enter Tryz.func33, Tryz.ntmps33
  go_wp2
  go_ret; exact ⟨rfl, Below.refl _ _⟩
end
end Go.Proofs.YtdmmchoicngblaaGreatDoor
