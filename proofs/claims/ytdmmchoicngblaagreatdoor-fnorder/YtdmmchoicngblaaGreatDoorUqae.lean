/- Texts of FcD, FoI, Make3, ItS, FoS, Stk1, BackF, Dt7. Own work of the verifier. -/
import Derived.RangeFuncNested
import Derived.RangeFuncBound
import Derived.RangeFuncCalls
import Derived.RangeFuncLeaves
import Derived.Shelf.RegionOpen
import Derived.OwnWalkIn
import Derived.TacticsInMore
import Derived.LoopNIn
import Derived.LoopIn
import Derived.Sort.EveryDepth
import Derived.Test.YtdmmchoicngblaaGreatDoorUqad
import Derived.WalkSmall
import Derived.RangeFuncBox
namespace Go.Proofs.YtdmmchoicngblaaGreatDoor
set_option linter.unusedVariables false
set_option maxRecDepth 100000
section
open Go Go.RowKit Go.Maps
def NodeC (w : World) (c : Cel) (K : List Value → Prop) (v : Value) : Prop :=
 (c.1 = 0 ∧ v = .iface 82 (.int .i64 c.2.1)) ∨ (c.1 = 1 ∧ v = .iface 150 (.int .i64 c.2.1)) ∨ (c.1 = 2 ∧ v = .iface 94 (.string (strOfNums c.2.2))) ∨
 (c.1 = 3 ∧ ∃ b g cq vs, v = .iface 139 (.pointer (some ⟨b, 0, none⟩)) ∧ True ∧ True ∧ w.cell? ⟨b, 0, none⟩ = some (.string (strOfNums c.2.2)) ∧
   w.cell? ⟨b, 1, none⟩ = some (.slice (some ⟨g, 0, none⟩) vs.length cq) ∧ g < w.heap.size ∧ (∀ i, i < vs.length → w.cell? ⟨g, i, none⟩ = some (vs.getD i .nilIface)) ∧ K vs)
def FoC (w : World) : Fo → List Value → Prop
 | .nil, vs => vs = []
 | .node c k r, vs => ∃ v vr, vs = v :: vr ∧ NodeC w c (fun kv => FoC w k kv) v ∧ FoC w r vr
theorem NodeC.iface {w : World} {c : Cel} {K : List Value → Prop} {v : Value} (h : NodeC w c K v) : ∃ t x, v = .iface t x := by
 rcases h with ⟨_, h⟩ | ⟨_, h⟩ | ⟨_, h⟩ | ⟨_, b, g, cq, vs, h, _⟩ <;> exact ⟨_, _, h⟩
theorem FoC.iface {w : World} {c : Cel} {k : Fo} {v : Value} (h : FoC w (.node c k .nil) [v]) : ∃ t x, v = .iface t x := by
 obtain ⟨v', vr, e, hn, _⟩ := h; obtain ⟨rfl, rfl⟩ := List.cons.inj e; exact hn.iface
theorem FoC.count {w : World} : ∀ (F : Fo) (vs : List Value), FoC w F vs → vs.length = F.count
 | .nil, vs, h => by rw [show vs = [] from h]; rfl
 | .node c k r, vs, ⟨v, vr, e, _, hr⟩ => by rw [e]; simp [Fo.count, FoC.count r vr hr]
theorem FoC.imp {w w' : World} (hs : w.heap.size ≤ w'.heap.size) : ∀ (F : Fo) (vs : List Value), (∀ p v, w.cell? p = some v → w'.cell? p = some v) → FoC w F vs → FoC w' F vs
 | .nil, vs, _, h => h
 | .node c k r, vs, hc, ⟨v, vr, e, hn, hr⟩ => by
   refine ⟨v, vr, e, ?_, FoC.imp hs r vr hc hr⟩
   rcases hn with h | h | h | ⟨h, b, g, cq, us, hv, h1, h2, c0, c1, hg, cg, hk⟩
   ·exact .inl h
   ·exact .inr (.inl h)
   ·exact .inr (.inr (.inl h))
   ·exact .inr (.inr (.inr ⟨h, b, g, cq, us, hv, h1, h2, hc _ _ c0, hc _ _ c1, Nat.lt_of_lt_of_le hg hs, fun i hi => hc _ _ (cg i hi), FoC.imp hs k us hc hk⟩))
theorem FoC.of {w : World} {B : Nat} : ∀ (F : Fo) (vs : List Value), FoIn w B F vs → FoC w F vs
 | .nil, vs, h => h
 | .node c k r, vs, ⟨v, vr, e, hn, hr⟩ => by
   refine ⟨v, vr, e, ?_, FoC.of r vr hr⟩
   rcases hn with h | h | h | ⟨h, b, g, us, hv, h1, h2, c0, c1, hg, cg, hk⟩
   ·exact .inl h
   ·exact .inr (.inl h)
   ·exact .inr (.inr (.inl h))
   ·exact .inr (.inr (.inr ⟨h, b, g, us.length, us, hv, trivial, trivial, c0, c1, hg, cg, FoC.of k us hk⟩))
theorem FoC.below {w w' : World} {F : Fo} {vs : List Value} (h : FoC w F vs) (hb : Below w.heap.size w w') : FoC w' F vs := FoC.imp hb.size F vs (fun p v hp => (hb.cell (World.block_lt_of_cell? _ _ hp)).trans hp) h
end
section
open Go Go.RowKit
theorem NodeIn.imp2 {w w' : World} {B B' : Nat} {c : Cel} {K K' : List Value → Prop} {v : Value} (h : NodeIn w B c K v) (hB : B' ≤ B) (hc : ∀ p v, w.cell? p = some v → w'.cell? p = some v) (hs : w.heap.size ≤ w'.heap.size) (hK : ∀ vs, K vs → K' vs) : NodeIn w' B' c K' v := by
 rcases h with h | h | h | ⟨h, b, g, vs, hv, h1, h2, c0, c1, hg, cg, hk⟩
 ·exact .inl h
 ·exact .inr (.inl h)
 ·exact .inr (.inr (.inl h))
 ·exact .inr (.inr (.inr ⟨h, b, g, vs, hv, by omega, by omega, hc _ _ c0, hc _ _ c1, by omega, fun i hi => hc _ _ (cg i hi), hK _ hk⟩))
theorem FoIn.imp2 {w w' : World} {B B' : Nat} (hB : B' ≤ B) (hc : ∀ p v, w.cell? p = some v → w'.cell? p = some v) (hs : w.heap.size ≤ w'.heap.size) : ∀ (F : Fo) (vs : List Value), FoIn w B F vs → FoIn w' B' F vs
 | .nil, vs, h => h
 | .node c k r, vs, ⟨v, vr, e, hn, hr⟩ => ⟨v, vr, e, hn.imp2 hB hc hs (fun kv => FoIn.imp2 hB hc hs k kv), FoIn.imp2 hB hc hs r vr hr⟩
end
section
open Go Go.RowKit Go.Shelf
attribute [local go_sem] Oper.semAt_some
def upto {α : Type} (f : Nat → α) (k : Nat) : List α := (List.range k).map f
theorem upto_succ {α : Type} (f : Nat → α) (k : Nat) : upto f (k + 1) = upto f k ++ [f k] := by simp [upto, List.range_succ]
theorem upto_length {α : Type} (f : Nat → α) (k : Nat) : (upto f k).length = k := by simp [upto]
abbrev Itm : Type := Nat × Nat × Value
def bkAt (zs : List (Nat × Value)) (n j : Nat) : Itm := (n - 1 - j, (zs[n - 1 - j]?.getD (0, .nilIface)).1, (zs[n - 1 - j]?.getD (0, .nilIface)).2)
def BKeep (n₀ Bs : Nat) (A B : World) : Prop := Below n₀ A B ∧ ∀ v, A.cell? ⟨Bs, 0, none⟩ = some v → B.cell? ⟨Bs, 0, none⟩ = some v
theorem BKeep.refl (n₀ Bs : Nat) (A : World) : BKeep n₀ Bs A A := ⟨Below.refl _ _, fun _ h => h⟩
theorem BKeep.trans {n₀ Bs : Nat} {A B C : World} (h : BKeep n₀ Bs A B) (k : BKeep n₀ Bs B C) : BKeep n₀ Bs A C := ⟨h.1.trans k.1, fun v hv => k.2 v (h.2 v hv)⟩
set_option maxHeartbeats 2000000 in
theorem back1_in (F : Fence) (n : Nat) (h7 : F.fn 180) (hro : F.round = none) (hn : 1 ≤ n) (l Bs n₀ b len cap : Nat) (zs : List (Nat × Value)) (hlen : len ≤ 2000) (hb : b < n₀) (J Jx : List Itm → World → Prop)
  (hY : ∀ pre x W, J pre W → pre.length < len → YieldAt F (n - 1) Tryz.prog l #[.int .i64 (x.1 : Int), .iface x.2.1 x.2.2] W fun e W' =>
    (e = .returned (.bool true) ∧ J (pre ++ [x]) W' ∧ BKeep n₀ Bs W W') ∨ (e = .returned (.bool false) ∧ Jx (pre ++ [x]) W'))
  (W : World) (hBs : W.cell? ⟨Bs, 0, none⟩ = some (.slice (some ⟨b, 0, none⟩) len cap)) (hc : ∀ j, j < len → W.cell? ⟨b, j, none⟩ = some (.iface (zs[j]?.getD (0, .nilIface)).1 (zs[j]?.getD (0, .nilIface)).2)) (h0 : J [] W) :
  CallsIn F n Tryz.prog 180 #[.func (.yield l) #[] #[], .pointer (some ⟨Bs, 0, none⟩)] W fun e W' => (∃ v, e = .returned v) ∧
   ((∃ ys, ys = upto (bkAt zs len) len ∧ J ys W') ∨ (∃ pre, True ∧ Jx pre W')) := by
 refine callsIn_of_wp Tryz.func180 rfl h7 ?_ hro; simp only [Tryz.ntmps180, List.size_toArray, List.length_cons, List.length_nil, Nat.reduceAdd, Nat.reduceSub, Array.replicate_succ, Array.replicate_zero, List.push_toArray, List.append_toArray, List.nil_append, List.cons_append]
 gi_wp2
 gi_loopw [3] (fun i wr => ∃ m : Nat, m ≤ len ∧ i = .int .i64 ((m : Int) - 1) ∧ J (upto (bkAt zs len) (len - m)) wr ∧ BKeep n₀ Bs W wr)
  (fun i _ => (intOf i + 1).toNat)
 case atStart => exact ⟨len, Nat.le_refl _, by go_num, by rw [Nat.sub_self]; exact h0, BKeep.refl _ _ _⟩
 case round =>
  obtain ⟨m, hm, rfl, hJs, hnx⟩ := hrel; have hBs' := hnx.2 _ hBs
  cases m with
  | zero =>
    gi_wp2
    go_end0
    exact ⟨⟨_, rfl⟩, .inl ⟨_, rfl, hJs⟩⟩
  | succ m =>
    have hcx := (hnx.1.cell (p := ⟨b, m, none⟩) hb).trans (hc m (by omega))
    have e1 : ((m + 1 : Nat) : Int) - 1 = (m : Int) := by omega
    have e2 : len - 1 - (len - (m + 1)) = m := by omega
    have e3 : bkAt zs len (len - (m + 1)) = (m, (zs[m]?.getD (0, .nilIface)).1, (zs[m]?.getD (0, .nilIface)).2) := by simp only [bkAt, e2]
    have e4 : upto (bkAt zs len) (len - (m + 1)) ++ [(m, (zs[m]?.getD (0, .nilIface)).1, (zs[m]?.getD (0, .nilIface)).2)] = upto (bkAt zs len) (len - m) := by
     rw [← e3, ← upto_succ]
     congr 1; omega
    obtain ⟨fn, tmps, assign, body, hy, hR⟩ := hY _ (m, (zs[m]?.getD (0, .nilIface)).1, (zs[m]?.getD (0, .nilIface)).2) wr hJs (by rw [upto_length]; omega)
    dsimp only at hy
    rw [e4] at hR; rw [e1]
    obtain ⟨tv, etv⟩ : ∃ tv, tv = (zs[m]?.getD (0, .nilIface)).1 := ⟨_, rfl⟩
    obtain ⟨xv, exv⟩ : ∃ xv, xv = (zs[m]?.getD (0, .nilIface)).2 := ⟨_, rfl⟩
    rw [← etv, ← exv] at hy hcx; have hR' : Hid _ := hR; clear e1 e2 e3 e4 etv exv
    gi_wp2
    refine hR.mono ?_; rintro e W3 (⟨rfl, hJ3, hk3⟩ | ⟨rfl, hJx3⟩)
    ·gi_wp2
     go_roundw
     case rel => exact ⟨m, by omega, by go_num, hJ3, hnx.trans hk3⟩
     case measure => simp [intOf]
    ·gi_wp2
     refine bodyPost_ret (results_none rfl _ _ _) rfl ?_; exact ⟨⟨_, rfl⟩, .inr ⟨_, trivial, hJx3⟩⟩
set_option maxHeartbeats 1000000 in
theorem back_in (F : Fence) (n : Nat) (h5 : F.fn 104) (hro : F.round = none) (a : Option Addr) (len cap : Nat) (w : World) :
  CallsIn F n Tryz.prog 104 #[.slice a len cap] w fun e w' => e = .returned (.func (.func 180) #[] #[.pointer (some ⟨w.heap.size, 0, none⟩)]) ∧ w' = w.alloc (.cells #[.slice a len cap] 83) := by
 refine callsIn_of_wp Tryz.func104 rfl h5 ?_ hro; simp only [Tryz.ntmps104, List.size_toArray, List.length_cons, List.length_nil, Nat.reduceAdd, Nat.reduceSub, Array.replicate_succ, Array.replicate_zero, List.push_toArray, List.append_toArray, List.nil_append, List.cons_append]
 gi_wp2
 go_ret; exact ⟨rfl, rfl⟩
theorem back_stops (F : Fence) (n : Nat) (h7 : F.fn 180) (hro : F.round = none) (hn : 1 ≤ n) (Bs n₀ b len cap : Nat) (zs : List (Nat × Value)) (hlen : len ≤ 2000) (w : World) (hBs : Bs < w.heap.size) (hn₀ : n₀ ≤ w.heap.size) (hb : b < n₀)
  (hcB : w.cell? ⟨Bs, 0, none⟩ = some (.slice (some ⟨b, 0, none⟩) len cap)) (hc : ∀ j, j < len → w.cell? ⟨b, j, none⟩ = some (.iface (zs[j]?.getD (0, .nilIface)).1 (zs[j]?.getD (0, .nilIface)).2)) :
  SeqStopsK F n Tryz.prog 180 #[.pointer (some ⟨Bs, 0, none⟩)] (fun x : Itm => #[Value.int .i64 (x.1 : Int), Value.iface x.2.1 x.2.2]) (BKeep n₀ Bs) (fun ys => ys = upto (bkAt zs len) len) (fun _ => True) len w := fun l J Jx W hW _ _ hY h0 => by
 exact back1_in F n h7 hro hn l Bs n₀ b len cap zs hlen hb J Jx hY W ((hW.cell (p := ⟨Bs, 0, none⟩) hBs).trans hcB) (fun j hj => (hW.cell (p := ⟨b, j, none⟩) (by show b < _; omega)).trans (hc j hj)) h0
theorem bKeep_b {n₀ Bs : Nat} {w : World} (hn : n₀ ≤ w.heap.size) (W : World) (l : Nat) (o o' : Obj) (hl : w.heap.size ≤ l) (h : W.heap[l]? = some o) (ho : o.isCells = false) (hw : o.isWalk = false) : BKeep n₀ Bs W (W.putObj l o') :=
 ⟨belowK_b hn W l o o' hl h ho hw, fun v hv => cell_kept hv (grownBy_putObj' W l o') (fun r e => by cases e; exact ⟨_, h, ho⟩)⟩
end
section
open Go Go.RowKit
end
section
open Go Go.RowKit
open Classical in
noncomputable def strikeA (A : Nat → Prop) (W : World) : World := { W with heap := W.heap.mapIdx fun i o => if A i then .deferred none else o }
theorem strikeA_size (A : Nat → Prop) (W : World) : (strikeA A W).heap.size = W.heap.size := by simp [strikeA]
open Classical in
theorem strikeA_cell {A : Nat → Prop} {W : World} {p : Addr} {v : Value} : (strikeA A W).cell? p = some v ↔ ¬ A p.block ∧ W.cell? p = some v := by
 have e : (strikeA A W).heap[p.block]? = W.heap[p.block]?.map fun o => if A p.block then .deferred none else o := by simp [strikeA]
 unfold World.cell?
 rw [e]
 by_cases h : A p.block
 ·cases W.heap[p.block]? <;> simp [h]
 ·cases W.heap[p.block]? <;> simp [h]
def FoA (A : Nat → Prop) (W : World) (F : Fo) (vs : List Value) : Prop := FoIn (strikeA A W) 0 F vs
theorem FoA.foIn {A : Nat → Prop} {W : World} {F : Fo} {vs : List Value} (h : FoA A W F vs) : FoIn W 0 F vs :=
 FoIn.imp2 (Nat.le_refl _) (fun p v hp => (strikeA_cell.1 hp).2) (by rw [strikeA_size]; exact Nat.le_refl _) F vs h
theorem FoA.move {A A' : Nat → Prop} {W W' : World} {F : Fo} {vs : List Value} (h : FoA A W F vs) (hA : ∀ p v, ¬ A p.block → W.cell? p = some v → ¬ A' p.block ∧ W'.cell? p = some v) (hs : W.heap.size ≤ W'.heap.size) : FoA A' W' F vs :=
 FoIn.imp2 (Nat.le_refl _) (fun p v hp => strikeA_cell.2 (hA p v (strikeA_cell.1 hp).1 (strikeA_cell.1 hp).2)) (by rw [strikeA_size, strikeA_size]; exact hs) F vs h
theorem FoA.cat {A : Nat → Prop} {W : World} {F G : Fo} {vs us : List Value} (h : FoA A W F vs) (h' : FoA A W G us) : FoA A W (F.cat G) (vs ++ us) := FoIn.cat _ _ _ _ h h'
end
section
open Go Go.RowKit
def flatP (vs : List (Value × Value)) : List Value := vs.flatMap (fun x => [x.1, x.2])
theorem flatP_append (a b : List (Value × Value)) : flatP (a ++ b) = flatP a ++ flatP b := by simp [flatP]
theorem flatP_len : ∀ vs : List (Value × Value), (flatP vs).length = vs.length * 2
 | [] => rfl
 | x :: r => by have := flatP_len r; simp only [flatP] at this; simp [flatP, this]; omega
def PairsIn (W0 : World) (Bt : Nat) : List TT → List (Value × Value) → Prop
 | [], vs => vs = []
 | x :: r, vs => ∃ v s, vs = v :: s ∧ FoIn W0 Bt x.1.fo [v.1] ∧ FoIn W0 Bt x.2.fo [v.2] ∧ PairsIn W0 Bt r s
theorem PairsIn.len {W0 : World} {Bt : Nat} : ∀ (st : List TT) (vs : List (Value × Value)), PairsIn W0 Bt st vs → vs.length = st.length
 | [], vs, h => by rw [show vs = [] from h]; rfl
 | x :: r, vs, ⟨v, s, e, _, _, h⟩ => by rw [e]; simp [PairsIn.len r s h]
theorem PairsIn.append {W0 : World} {Bt : Nat} : ∀ (a b : List TT) (vs us : List (Value × Value)), PairsIn W0 Bt a vs → PairsIn W0 Bt b us → PairsIn W0 Bt (a ++ b) (vs ++ us)
 | [], b, vs, us, h, k => by rw [show vs = [] from h]; exact k
 | x :: r, b, vs, us, ⟨v, s, e, h1, h2, h3⟩, k => by
   subst e; exact ⟨v, s ++ us, rfl, h1, h2, PairsIn.append r b s us h3 k⟩
theorem PairsIn.parts {W0 : World} {Bt : Nat} : ∀ (a b : List TT) (vs : List (Value × Value)), PairsIn W0 Bt (a ++ b) vs → ∃ us ws, vs = us ++ ws ∧ PairsIn W0 Bt a us ∧ PairsIn W0 Bt b ws
 | [], b, vs, h => ⟨[], vs, rfl, rfl, h⟩
 | x :: r, b, vs, ⟨v, s, e, h1, h2, h3⟩ => by
   obtain ⟨us, ws, e', k1, k2⟩ := PairsIn.parts r b s h3; subst e e'; exact ⟨v :: us, ws, rfl, ⟨v, us, rfl, h1, h2, k1⟩, k2⟩
structure Stk (W0 : World) (Bt : Nat) (w : World) (B sb so : Nat) (p : Option Addr) (n c : Nat) (st : List TT) : Prop where
 cell : w.cell? ⟨sb, so, none⟩ = some (.slice p n c)
 free : w.frozen? ⟨sb, so, none⟩ = false
 len : n = st.length
 row : ∃ vs, w.ownsRow B 135 2 (.slice p n c) n (flatP vs) ∧ PairsIn W0 Bt st vs
 away : ∀ g, p = some ⟨g, 0, none⟩ → g ≠ sb
structure Kept2 (w w' : World) (sb so : Nat) (g : Option Nat) : Prop where
 os : w'.os = w.os
 tape : w'.tape = w.tape
 output : w'.output = w.output
 size : w.heap.size ≤ w'.heap.size
 block : ∀ k, k < w.heap.size → k ≠ sb → some k ≠ g → w'.heap[k]? = w.heap[k]?
 cells : ∀ o, o ≠ so → w'.cell? ⟨sb, o, none⟩ = w.cell? ⟨sb, o, none⟩
 frz : ∀ o, w'.frozen? ⟨sb, o, none⟩ = w.frozen? ⟨sb, o, none⟩
theorem Kept2.below {w w' : World} {sb so B : Nat} {g : Option Nat} (h : Kept2 w w' sb so g) (hs : B ≤ sb) (hg : ∀ k, g = some k → B ≤ k) (hB : B ≤ w.heap.size) : Below B w w' :=
 ⟨h.os, h.tape, h.output, h.size, fun k hk => h.block k (by omega) (by omega) (fun e => by have := hg k e.symm; omega)⟩
theorem Kept2.refl (w : World) (sb so : Nat) (g : Option Nat) : Kept2 w w sb so g := ⟨rfl, rfl, rfl, Nat.le_refl _, fun _ _ _ _ => rfl, fun _ _ => rfl, fun _ => rfl⟩
theorem Kept2.alloc {w w' : World} {sb so : Nat} {g : Option Nat} (h : Kept2 w w' sb so g) (hs : sb < w'.heap.size) (o : Obj) : Kept2 w (w'.alloc o) sb so g :=
 ⟨h.os, h.tape, h.output, Nat.le_trans h.size (by simp), fun k hk h1 h2 => (Below.heap_alloc _ _ _ (Nat.lt_of_lt_of_le hk h.size)).trans (h.block k hk h1 h2),
  fun j hj => (World.cell?_of_block (w := w') (a := ⟨sb, j, none⟩) (Below.heap_alloc _ _ _ hs)).trans (h.cells j hj), fun j => (World.frozen?_of_block (w := w') (a := ⟨sb, j, none⟩) (Below.heap_alloc _ _ _ hs)).trans (h.frz j)⟩
theorem Kept2.set {w w' : World} {sb so : Nat} {g : Option Nat} (h : Kept2 w w' sb so g) (u : Value) : Kept2 w (w'.setCell ⟨sb, so, none⟩ u) sb so g :=
 ⟨by rw [World.setCell]; split <;> exact h.os, h.tape, h.output, by simpa using h.size, fun k hk h1 h2 => (Below.heap_setCell _ _ _ _ h1).trans (h.block k hk h1 h2),
  fun j hj => (World.cell?_setCell_other _ _ _ _ (fun e => hj (congrArg Addr.off e).symm)).trans (h.cells j hj), fun j => by rw [World.frozen?_setCell]; exact h.frz j⟩
theorem Kept2.new {w w' : World} {sb so : Nat} {g : Option Nat} (h : Kept2 w w' sb so g) {a : Addr} (ha : w.heap.size ≤ a.block) (hs : sb < w.heap.size) (u : Value) : Kept2 w (w'.setCell a u) sb so g :=
 ⟨h.os, h.tape, h.output, by simpa using h.size, fun k hk h1 h2 => (Below.heap_setCell _ _ _ _ (by omega)).trans (h.block k hk h1 h2),
  fun j hj => (World.cell?_setCell_other _ _ _ _ (fun e => by rw [e] at ha; simp at ha; omega)).trans (h.cells j hj), fun j => by rw [World.frozen?_setCell]; exact h.frz j⟩
def TakeOut (W0 : World) (Bt : Nat) (w : World) (B sb so : Nat) (g : Option Nat) (st : List TT) (x : TT) (e : Ending) (w' : World) : Prop :=
 ∃ v1 v2, e = .returned (.agg #[v1, v2]) ∧ FoIn W0 Bt x.1.fo [v1] ∧ FoIn W0 Bt x.2.fo [v2] ∧ (∃ p n c, Stk W0 Bt w' B sb so p n c st ∧ Value.ownBlock (.slice p n c) = g) ∧ Kept2 w w' sb so none
set_option maxHeartbeats 1000000 in
theorem take_any (W0 : World) (Bt : Nat) (w : World) (B sb so : Nat) (p : Option Addr) (n c : Nat) (st : List TT) (x : TT) (hn : n ≤ 1000000) (h : Stk W0 Bt w B sb so p n c (st ++ [x])) :
  Calls Tryz.prog 226 #[.pointer (some ⟨sb, so, none⟩)] w (TakeOut W0 Bt w B sb so (Value.ownBlock (.slice p n c)) st x) := by
 obtain ⟨hcell, hfree, hlen, ⟨vs, hrow, hin⟩, haway⟩ := h; obtain ⟨us, ws, rfl, hin1, hin2⟩ := PairsIn.parts _ _ _ hin; obtain ⟨v, s, rfl, hx1, hx2, hs0⟩ := hin2; obtain rfl : s = [] := hs0; have hul := hin1.len
 obtain ⟨L, eL⟩ : ∃ L, L = st.length := ⟨_, rfl⟩
 have hnL : n = L + 1 := by rw [hlen, eL]; simp
 obtain ⟨g, cap, hform⟩ := ownsRow_succ (k := L) (by rw [← hnL]; exact hrow); subst hnL
 cases hform
 have d0 : w.cell? ⟨g, L * 2, none⟩ = some v.1 := by
  rw [hrow.cellAt _ (by omega), flatP_append, List.getElem?_append_right (by rw [flatP_len]; omega), flatP_len]; rw [show L * 2 - us.length * 2 = 0 by omega]; rfl
 have d1 : w.cell? ⟨g, L * 2 + 1, none⟩ = some v.2 := by
  rw [hrow.cellAt _ (by omega), flatP_append, List.getElem?_append_right (by rw [flatP_len]; omega), flatP_len]; rw [show L * 2 + 1 - us.length * 2 = 1 by omega]; rfl
 obtain ⟨t1, x1, e1⟩ := FoIn.iface (show FoIn W0 Bt (.node x.1.1 x.1.2 .nil) [v.1] from hx1); obtain ⟨t2, x2, e2⟩ := FoIn.iface (show FoIn W0 Bt (.node x.2.1 x.2.2 .nil) [v.2] from hx2); have hpop := ownsRow_pop (size := 2) (n := L) (xs := flatP us) (last := flatP [v]) (by rw [flatP_len]; omega) (by rw [← flatP_append]; exact hrow); obtain ⟨v1, v2⟩ := v; simp only at e1 e2 hx1 hx2 d0 d1; subst e1 e2
 have HFIN : Hid (∀ w', Kept2 w w' sb so none → w'.cell? ⟨sb, so, none⟩ = some (.slice (some ⟨g, 0, none⟩) L c) → w'.heap[g]? = w.heap[g]? → TakeOut W0 Bt w B sb so (some g) st x (.returned (.agg #[.iface t1 x1, .iface t2 x2])) w') := fun w' hk hc hg =>
  ⟨_, _, rfl, hx1, hx2, ⟨_, _, _, ⟨hc, (hk.frz so).trans hfree, eL, ⟨us, ⟨hpop.1, by
    rcases hpop.2 with ⟨h', _⟩ | ⟨g', cap', cur, hv, hB, hh, r⟩
    ·cases h'
    ·exact .inr ⟨g', cap', cur, hv, hB, by cases hv; exact hg.trans hh, r⟩⟩, hin1⟩, haway⟩, rfl⟩, hk⟩
 have hne := haway g rfl; have hlt : sb < w.heap.size := World.block_lt_of_cell? _ _ hcell; have hglt : g < w.heap.size := World.block_lt_of_cell? _ _ d0
 have hc1 : L ≤ c := by
  rcases hrow.2 with ⟨h', _⟩ | ⟨g', cap', cur, hv, hB, hh, r, _⟩
  ·cases h'
  ·cases hv; omega
 clear hpop hrow hin hin1 hx1 hx2 haway hlen hul eL
 go_enter Tryz.func226, Tryz.ntmps226
 go_wp2
 refine bodyPost_ret (v := .agg #[.iface t1 x1, .iface t2 x2]) (by simp [results, Tryz.results226, go_sem]) rfl (HFIN.out _ (((Kept2.refl w sb so none).set _).alloc (by simpa using hlt) _ |>.alloc (by simp; omega) _) ?_ ?_)
 ·exact Lib.cell?_alloc_marked _ (Lib.cell?_alloc_marked _ (World.cell?_setCell_same' _ _ _ (by rw [hcell]; rfl)))
 ·exact (Below.heap_alloc _ _ _ (by simp; omega)).trans ((Below.heap_alloc _ _ _ (by simpa using hglt)).trans (Below.heap_setCell _ _ _ _ hne))
end
section
open Go Go.RowKit Go.Shelf
attribute [local go_sem] Oper.semAt_some
def downF (len j : Nat) : List (Fin len) := (List.finRange len).reverse.take j
theorem downF_succ {len m : Nat} (h : m < len) : downF len (len - m) = downF len (len - (m + 1)) ++ [⟨m, h⟩] := by
 unfold downF
 have e : len - m = len - (m + 1) + 1 := by omega
 rw [e, List.take_add_one]
 congr 1
 rw [List.getElem?_reverse (by simp; omega)]; simp only [List.length_finRange]; rw [List.getElem?_eq_getElem (by simp; omega)]; simp only [List.getElem_finRange, Option.toList_some, List.cons.injEq, and_true]
 apply Fin.ext
 simp; omega
theorem downF_length {len m : Nat} (h : m ≤ len) : (downF len m).length = m := by simp [downF, h]
theorem downF_all (len : Nat) : downF len len = (List.finRange len).reverse := by
 unfold downF
 rw [List.take_of_length_le (by simp)]
set_option maxHeartbeats 2000000 in
theorem backF_in (F : Fence) (n : Nat) (h7 : F.fn 180) (hro : F.round = none) (hn : 1 ≤ n) (l Bs n₀ b len cap : Nat) (zs : List (Nat × Value)) (hlen : len ≤ 2000) (hb : b < n₀) (J Jx : List (Fin len) → World → Prop)
  (hY : ∀ pre (x : Fin len) W, J pre W → pre.length < len → YieldAt F (n - 1) Tryz.prog l #[.int .i64 ((x : Nat) : Int), .iface (zs[(x : Nat)]?.getD (0, .nilIface)).1 (zs[(x : Nat)]?.getD (0, .nilIface)).2] W fun e W' =>
    (e = .returned (.bool true) ∧ J (pre ++ [x]) W' ∧ BKeep n₀ Bs W W') ∨ (e = .returned (.bool false) ∧ Jx (pre ++ [x]) W'))
  (W : World) (hBs : W.cell? ⟨Bs, 0, none⟩ = some (.slice (some ⟨b, 0, none⟩) len cap)) (hc : ∀ j, j < len → W.cell? ⟨b, j, none⟩ = some (.iface (zs[j]?.getD (0, .nilIface)).1 (zs[j]?.getD (0, .nilIface)).2)) (h0 : J [] W) :
  CallsIn F n Tryz.prog 180 #[.func (.yield l) #[] #[], .pointer (some ⟨Bs, 0, none⟩)] W fun e W' => (∃ v, e = .returned v) ∧
   ((∃ ys, ys = downF len len ∧ J ys W') ∨ (∃ pre, True ∧ Jx pre W')) := by
 refine callsIn_of_wp Tryz.func180 rfl h7 ?_ hro; simp only [Tryz.ntmps180, List.size_toArray, List.length_cons, List.length_nil, Nat.reduceAdd, Nat.reduceSub, Array.replicate_succ, Array.replicate_zero, List.push_toArray, List.append_toArray, List.nil_append, List.cons_append]
 gi_wp2
 gi_loopw [3] (fun i wr => ∃ m : Nat, m ≤ len ∧ i = .int .i64 ((m : Int) - 1) ∧ J (downF len (len - m)) wr ∧ BKeep n₀ Bs W wr)
  (fun i _ => (intOf i + 1).toNat)
 case atStart => exact ⟨len, Nat.le_refl _, by go_num, by rw [Nat.sub_self]; exact h0, BKeep.refl _ _ _⟩
 case round =>
  obtain ⟨m, hm, rfl, hJs, hnx⟩ := hrel; have hBs' := hnx.2 _ hBs
  cases m with
  | zero =>
    gi_wp2
    go_end0
    exact ⟨⟨_, rfl⟩, .inl ⟨_, rfl, hJs⟩⟩
  | succ m =>
    have hcx := (hnx.1.cell (p := ⟨b, m, none⟩) hb).trans (hc m (by omega))
    have e1 : ((m + 1 : Nat) : Int) - 1 = (m : Int) := by omega
    have e4 := downF_succ (len := len) (m := m) (by omega); obtain ⟨fn, tmps, assign, body, hy, hR⟩ := hY _ ⟨m, by omega⟩ wr hJs (by rw [downF_length (by omega)]; omega)
    dsimp only at hy
    rw [← e4] at hR; rw [e1]
    obtain ⟨tv, etv⟩ : ∃ tv, tv = (zs[m]?.getD (0, .nilIface)).1 := ⟨_, rfl⟩
    obtain ⟨xv, exv⟩ : ∃ xv, xv = (zs[m]?.getD (0, .nilIface)).2 := ⟨_, rfl⟩
    rw [← etv, ← exv] at hy hcx; have hR' : Hid _ := hR; clear e1 e4 etv exv
    gi_wp2
    refine hR.mono ?_; rintro e W3 (⟨rfl, hJ3, hk3⟩ | ⟨rfl, hJx3⟩)
    ·gi_wp2
     go_roundw
     case rel => exact ⟨m, by omega, by go_num, hJ3, hnx.trans hk3⟩
     case measure => simp [intOf]
    ·gi_wp2
     refine bodyPost_ret (results_none rfl _ _ _) rfl ?_; exact ⟨⟨_, rfl⟩, .inr ⟨_, trivial, hJx3⟩⟩
theorem backF_stops (F : Fence) (n : Nat) (h7 : F.fn 180) (hro : F.round = none) (hn : 1 ≤ n) (Bs n₀ b len cap : Nat) (zs : List (Nat × Value)) (hlen : len ≤ 2000) (w : World) (hBs : Bs < w.heap.size) (hn₀ : n₀ ≤ w.heap.size) (hb : b < n₀)
  (hcB : w.cell? ⟨Bs, 0, none⟩ = some (.slice (some ⟨b, 0, none⟩) len cap)) (hc : ∀ j, j < len → w.cell? ⟨b, j, none⟩ = some (.iface (zs[j]?.getD (0, .nilIface)).1 (zs[j]?.getD (0, .nilIface)).2)) :
  SeqStopsK F n Tryz.prog 180 #[.pointer (some ⟨Bs, 0, none⟩)] (fun x : Fin len => #[Value.int .i64 ((x : Nat) : Int), Value.iface (zs[(x : Nat)]?.getD (0, .nilIface)).1 (zs[(x : Nat)]?.getD (0, .nilIface)).2]) (BKeep n₀ Bs) (fun ys => ys = downF len len) (fun _ => True) len w := fun l J Jx W hW _ _ hY h0 => by
 exact backF_in F n h7 hro hn l Bs n₀ b len cap zs hlen hb J Jx hY W ((hW.cell (p := ⟨Bs, 0, none⟩) hBs).trans hcB) (fun j hj => (hW.cell (p := ⟨b, j, none⟩) (by show b < _; omega)).trans (hc j hj)) h0
end
section
open Go Go.RowKit
def bigL (m : Nat) : List Cel := (List.range m).flatMap (fun j => [dot, (0, ((j % 7 : Nat) : Int), [])])
def bigF (n : Nat) : List Cel := (bigL ((n - 1) / 2) ++ (if n % 2 = 0 then [(3, 1, [102])] else [])) ++ [nilC]
def spoilF (xs : List Int) (cs : List Cel) (i : Nat) : List Cel × Nat :=
 let k := (rdI xs i).toNat % 9
 let a := (rdI xs (rdN xs i)).toNat % cs.length
 let i2 := rdN xs (rdN xs i)
 let c := cs.getD a Cel.none
 let y := (rdI xs i2).toNat
 if k = 0 then (cs.set a (((y % 6 : Nat) : Int) - 1, c.2.1, c.2.2), rdN xs i2)
 else if k = 1 then (cs.set a (c.1, c.2.1 + 1, c.2.2), i2)
 else if k = 2 then (cs.set a (c.1, -1, c.2.2), i2)
 else if k = 3 then (cs.take (cs.length - 1), i2)
 else if k = 4 then (cs ++ [(2, 0, [])], i2)
 else if k = 5 then (cs.set a (c.1, c.2.1, List.replicate (100 + y % 2) 116), rdN xs i2)
 else if k = 6 then (cs.set a (c.1, 1000000000000000 + ((y % 2 : Nat) : Int), c.2.2), rdN xs i2)
 else if k = 7 then (bigF (1999 + y % 3), rdN xs i2)
 else (cs.set a (0, 1000000 + ((y % 2 : Nat) : Int), []), rdN xs i2)
def anyF (xs : List Int) (i : Nat) : List Cel × Nat :=
 let r := drawT xs 4 (rdN xs i)
 if (rdI xs i).toNat % 16 = 0 then spoilF xs r.1 r.2 else r
structure Mid (cs : List Cel) : Prop where
 len : cs.length ≤ 2001
 txt : tl cs ≤ 12000
 byte : ∀ i, i < cs.length → Byte (cs.getD i Cel.none).2.2
def ByteC (cs : List Cel) : Prop := ∀ c ∈ cs, Byte c.2.2
theorem ByteC.get {cs : List Cel} (h : ByteC cs) (i : Nat) (hi : i < cs.length) : Byte (cs.getD i Cel.none).2.2 := by
 rw [List.getD, List.getElem?_eq_getElem hi]; exact h _ (List.getElem_mem hi)
theorem ByteC.app {a b : List Cel} (ha : ByteC a) (hb : ByteC b) : ByteC (a ++ b) := fun c hc => by
 rcases List.mem_append.1 hc with h | h
 ·exact ha c h
 ·exact hb c h
theorem ByteC.cons {c : Cel} {b : List Cel} (ha : Byte c.2.2) (hb : ByteC b) : ByteC (c :: b) := fun d hd => by
 rcases List.mem_cons.1 hd with rfl | h
 ·exact ha
 ·exact hb d h
theorem ByteC.nil : ByteC [] := fun c h => by cases h
theorem byte_nilD : Byte [] := fun x h => by cases h
theorem ByteC.flatten {css : List (List Cel)} (h : ∀ j, j < css.length → ByteC (css.getD j [])) : ByteC css.flatten := fun c hc => by
 obtain ⟨cs, h1, h2⟩ := List.mem_flatten.1 hc; obtain ⟨j, hj, rfl⟩ := List.mem_iff_getElem.1 h1; have := h j hj; rw [List.getD, List.getElem?_eq_getElem hj] at this; exact this c h2
theorem ByteC.ls {css : List (List Cel)} {en : List Cel} (h : ∀ j, j < css.length → ByteC (css.getD j [])) (he : ByteC en) : ByteC (lsL css en) := by
 refine ByteC.app (fun c hc => ?_) he; obtain ⟨cs, h1, h2⟩ := List.mem_flatMap.1 hc
 rcases List.mem_cons.1 h2 with rfl | h3
 ·intro x hx; simp [dot] at hx; omega
 ·obtain ⟨j, hj, rfl⟩ := List.mem_iff_getElem.1 h1
  have := h j hj; rw [List.getD, List.getElem?_eq_getElem hj] at this; exact this c h3
theorem byte_nilC : ByteC [nilC] := fun c hc => by
 rw [List.mem_singleton.1 hc]
 intro x hx; simp [nilC] at hx; omega
theorem leafT_byte (xs : List Int) (k i : Nat) : ByteC (leafT xs k i).1 := by
 unfold leafT
 repeat' split
 all_goals refine ByteC.cons ?_ ByteC.nil
 ·exact byte_nilD
 ·exact byte_nilD
 ·exact byte_numsU _
theorem nodeT_byte (xs : List Int) (f g : Nat → List Cel × Nat) (hf : ∀ i, ByteC (f i).1) (hg : ∀ i, ByteC (g i).1) (i : Nat) : ByteC (nodeT xs f g i).1 := by
 unfold nodeT
 simp only
 split
 ·exact leafT_byte _ _ _
 split
 ·have h : ∀ n i j, j < (iterT f n i).1.length → ByteC ((iterT f n i).1.getD j []) := fun n i j hj => iterT_at f hf n i j (by rwa [iterT_len] at hj)
  split
  ·exact ByteC.ls (h _ _) (hg _)
  ·exact ByteC.ls (h _ _) byte_nilC
 split
 ·exact ByteC.cons (byte_numsU _) ((hf _).app (hf _))
 split
 ·exact ByteC.cons (byte_numsU _) (hf _)
 ·exact ByteC.cons (byte_numsU _) (ByteC.flatten (fun j hj => iterT_at f hf _ _ j (by rwa [iterT_len] at hj)))
theorem drawT_byte (xs : List Int) : ∀ (d i : Nat), ByteC (drawT xs d i).1
 | 0, i => leafT_byte _ _ _
 | 1, i => nodeT_byte _ _ _ (drawT_byte xs 0) (drawT_byte xs 0) i
 | d + 2, i => nodeT_byte _ _ _ (drawT_byte xs (d + 1)) (drawT_byte xs d) i
theorem tl_set : ∀ (cs : List Cel) (i : Nat) (c : Cel), tl (cs.set i c) ≤ tl cs + c.2.2.length
 | [], i, c => by simp [tl]
 | d :: r, 0, c => by simp only [List.set_cons_zero, tl]; omega
 | d :: r, i + 1, c => by
   have := tl_set r i c; simp only [List.set_cons_succ, tl]; omega
theorem ByteC.set {cs : List Cel} (h : ByteC cs) (i : Nat) {c : Cel} (hc : Byte c.2.2) : ByteC (cs.set i c) := fun d hd => by
 rcases List.mem_or_eq_of_mem_set hd with h1 | rfl
 ·exact h d h1
 ·exact hc
theorem ByteC.getD {cs : List Cel} (h : ByteC cs) (i : Nat) : Byte (cs.getD i Cel.none).2.2 := by
 rcases Nat.lt_or_ge i cs.length with hi | hi
 ·exact h.get i hi
 ·rw [List.getD, List.getElem?_eq_none hi]; exact byte_nilD
theorem bigL_facts : ∀ m, (bigL m).length = 2 * m ∧ tl (bigL m) = m ∧ ByteC (bigL m)
 | 0 => ⟨rfl, rfl, ByteC.nil⟩
 | m + 1 => by
   obtain ⟨h1, h2, h3⟩ := bigL_facts m
   have e : bigL (m + 1) = bigL m ++ [dot, (0, ((m % 7 : Nat) : Int), [])] := by simp [bigL, List.range_succ, List.flatMap_append]
   rw [e]; refine ⟨by simp [h1]; omega, by rw [tl_app, h2]; rfl, h3.app (ByteC.cons ?_ (ByteC.cons byte_nilD ByteC.nil))⟩
   intro x hx; simp [dot] at hx; omega
theorem bigL_succ (m : Nat) : bigL (m + 1) = bigL m ++ [dot, (0, ((m % 7 : Nat) : Int), [])] := by simp [bigL, List.range_succ, List.flatMap_append]
theorem Mid.of {cs : List Cel} (h1 : cs.length ≤ 2001) (h2 : tl cs ≤ 12000) (h3 : ByteC cs) : Mid cs := ⟨h1, h2, h3.get⟩
theorem drawT_mid (xs : List Int) (i : Nat) : (drawT xs 4 i).1.length ≤ 511 ∧ tl (drawT xs 4 i).1 ≤ 5621 ∧ 0 < (drawT xs 4 i).1.length := by
 have h := drawT_sml xs 4 i; have := h.len; have := h.txt; exact ⟨by omega, by omega, h.pos⟩
theorem spoilF_mid (xs : List Int) (cs : List Cel) (i : Nat) (h1 : cs.length ≤ 511) (h2 : tl cs ≤ 5621) (hb : ByteC cs) : Mid (spoilF xs cs i).1 ∧ ByteC (spoilF xs cs i).1 := by
 have hat : ∀ a, (cs.getD a Cel.none).2.2.length ≤ tl cs := fun a => by
  rcases Nat.lt_or_ge a cs.length with h | h
  ·exact tl_at cs a h
  ·rw [List.getD, List.getElem?_eq_none h]; exact Nat.zero_le _
 have st : ∀ a (c : Cel), c.2.2.length ≤ 101 ∨ c.2.2 = (cs.getD a Cel.none).2.2 → Byte c.2.2 → Mid (cs.set a c) ∧ ByteC (cs.set a c) := fun a c hl hc => by
  refine ⟨Mid.of (by rw [List.length_set]; omega) ?_ (hb.set a hc), hb.set a hc⟩
  rcases hl with hl | hl
  ·have := tl_set cs a c; omega
  ·have := tl_set cs a c; have := hat a; rw [hl] at *; omega
 unfold spoilF
 simp only
 split
 ·exact st _ _ (.inr rfl) (hb.getD _)
 split
 ·exact st _ _ (.inr rfl) (hb.getD _)
 split
 ·exact st _ _ (.inr rfl) (hb.getD _)
 split
 ·have hh : ByteC (cs.take (cs.length - 1)) := fun c hc => hb c (List.mem_of_mem_take hc)
  exact ⟨Mid.of (by rw [List.length_take]; omega) (Nat.le_trans (tl_take_le _ _) (by omega)) hh, hh⟩
 split
 ·have hh : ByteC (cs ++ [(2, 0, [])]) := hb.app (ByteC.cons byte_nilD ByteC.nil)
  exact ⟨Mid.of (by simp; omega) (by rw [tl_app]; simp [tl]; omega) hh, hh⟩
 split
 ·refine st _ _ (.inl (by simp; omega)) (fun x hx => ?_)
  rw [(List.mem_replicate.1 hx).2]; omega
 split
 ·exact st _ _ (.inr rfl) (hb.getD _)
 split
 ·have hn : 1999 + (rdI xs (rdN xs (rdN xs i))).toNat % 3 ≤ 2001 := by omega
  generalize 1999 + (rdI xs (rdN xs (rdN xs i))).toNat % 3 = n at *
  obtain ⟨a1, a2, a3⟩ := bigL_facts ((n - 1) / 2)
  have hh : ByteC (bigF n) := by
   unfold bigF
   refine (a3.app ?_).app byte_nilC
   split
   ·exact ByteC.cons (fun x hx => by simp at hx; omega) ByteC.nil
   ·exact ByteC.nil
  refine ⟨Mid.of ?_ ?_ hh, hh⟩
  ·unfold bigF
   rw [List.length_append, List.length_append, a1]
   split <;> simp <;> omega
  ·unfold bigF
   rw [tl_app, tl_app, a2]
   split <;> simp [tl, nilC] <;> omega
 ·exact st _ _ (.inl (by simp)) byte_nilD
theorem anyF_mid (xs : List Int) (i : Nat) : Mid (anyF xs i).1 ∧ ByteC (anyF xs i).1 := by
 obtain ⟨h1, h2, _⟩ := drawT_mid xs (rdN xs i)
 unfold anyF
 simp only
 split
 ·exact spoilF_mid xs _ _ h1 h2 (drawT_byte _ _ _)
 ·exact ⟨Mid.of (by omega) (by omega) (drawT_byte _ _ _), drawT_byte _ _ _⟩
end
end Go.Proofs.YtdmmchoicngblaaGreatDoor
