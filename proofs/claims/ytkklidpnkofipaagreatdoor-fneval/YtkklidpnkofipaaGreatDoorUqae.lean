/- Texts of StrI, IbM, StrU, DefW, IbP, RegB, MarkA, MarkT, MarkG, MarkC, SSG, Pure, L1c. Own work of the verifier. -/
import Derived.Test.YtkklidpnkofipaaGreatDoorUqab
import Derived.Test.YtkklidpnkofipaaGreatDoorUqac
import Derived.LoopN
import Derived.Deep.Upon
namespace Go.Proofs.YtkklidpnkofipaaGreatDoor
set_option linter.unusedVariables false
section
open Go Go.RowKit
theorem str_inj {xs ys : List Int} (hx : Byte xs) (hy : Byte ys) : (strOfNums xs == strOfNums ys) = decide (xs = ys) := by
 have h1 := str_beq hx (strOfNums ys).toList; have h2 := (str_eq hy (strOfNums ys).toList).1 rfl; rw [← h2] at h1; rw [← h1]
 congr 1
 rw [ByteArray.toList_eq]
theorem str_ne {xs ys : List Int} (hx : Byte xs) (hy : Byte ys) (h : strOfNums xs = strOfNums ys) : xs = ys := by
 have h1 := str_inj hx hy; rw [h, str_inj hy hy] at h1
 simpa using h1.symm
end
section
open Go Go.RowKit Go.Maps
def okN (f : Fun) : Prop := f.1.size ≤ 2000000 ∧ (Lit.int .i64 f.2).wf = true
theorem keyFunN (f : Fun) (h : okN f) : keyOf Tryz.prog 76 (.agg #[.string f.1, .int .i64 f.2]) = some (fk f) := by
 obtain ⟨n, hn⟩ := nTypes
 have hx : f.1.size ≤ maxLen := by have := h.1; unfold maxLen; omega
 exact keyPair Tryz.prog 76 9 3 _ _ _ rfl Tryz.underlying76 rfl rfl rfl rfl (by decide) (by decide) Tryz.underlying9 Tryz.underlying3 cellsFun cellsStr cellsIn typFun n hn f.1 f.2 hx h.2
theorem fk_injN {f g : Fun} (hf : okN f) (hg : okN g) (h : fk f = fk g) : f = g := by
 have h1 := keyFunN f hf; have h2 := keyFunN g hg; rw [← h] at h2; have := lawFun.inj h1 h2; obtain ⟨f1, f2⟩ := f; obtain ⟨g1, g2⟩ := g
 simpa using this
def heldN (v : Value) : Option (DataW Value × List MemPlace) := some (.held v, [])
def BuIn (w : World) (b N : Nat) (T : Fun → Option Nat) : Prop := ∃ D : DataW Value, w.ownsMap Tryz.prog 76 heldN b N D ∧
 ∀ f, okN f → match T f with
   | none => has D (fk f) = false ∧ ∀ z, D.atKey (fk f) z = z
   | some K => has D (fk f) = true ∧ ∀ z, D.atKey (fk f) z = .held (.func (.func K) #[] #[])
theorem BuIn.lt {w : World} {b N : Nat} {T : Fun → Option Nat} (h : BuIn w b N T) : b < w.heap.size := by obtain ⟨D, h, _⟩ := h; exact h.lt
theorem BuIn.of {w w' : World} {b N : Nat} {T : Fun → Option Nat} (h : BuIn w b N T) (hb : w'.heap[b]? = w.heap[b]?) : BuIn w' b N T := by
 obtain ⟨D, ⟨es, clock, h1, r⟩, h2⟩ := h; exact ⟨D, ⟨es, clock, hb.trans h1, r⟩, h2⟩
theorem BuIn.below {w w' : World} {b N : Nat} {T : Fun → Option Nat} (h : BuIn w b N T) (hb : Below w.heap.size w w') : BuIn w' b N T := h.of (hb.block _ h.lt)
theorem BuIn.made (w : World) : BuIn (w.alloc (.map #[] 0)) w.heap.size 0 (fun _ => none) := ⟨_, World.ownsMap_made _ _ _ _, fun f _ => ⟨rfl, fun z => rfl⟩⟩
theorem zeroBu (w : World) : (zeroValue 78).run Tryz.prog w = .ok .nilFunc w := by kernel_rfl
theorem BuIn.look {w : World} {b N : Nat} {T : Fun → Option Nat} (h : BuIn w b N T) (f : Fun) (hf : okN f) :
  (Instr.lookup 73 (.map (some b)) (.agg #[.string f.1, .int .i64 f.2]) true).run Tryz.prog w = .ok (.tuple #[(match T f with | none => .nilFunc | some K => .func (.func K) #[] #[]), .bool (T f).isSome]) w := by
 obtain ⟨D, hown, hT⟩ := h; obtain ⟨v, ps, hrun, hv⟩ := hown.look_ok lawFun Tryz.underlying73 (zeroBu w) (zd := .held .nilFunc) (zp := []) rfl (keyFunN f hf); have h1 := hT f hf; simp only [heldN, Option.some.injEq, Prod.mk.injEq] at hv; have hv := hv.1
 cases e : T f with
 | none =>
   rw [e] at h1; rw [h1.2] at hv; rw [hrun, h1.1]
   cases hv
   rfl
 | some c =>
   rw [e] at h1; rw [h1.2] at hv; rw [hrun, h1.1]
   cases hv
   rfl
theorem BuIn.put {w : World} {b N : Nat} {T : Fun → Option Nat} (h : BuIn w b N T) (hN : N ≤ 1000000) (f : Fun) (hf : okN f) (K : Nat) :
  ∃ w', (Instr.mapUpdate 73 (.map (some b)) (.agg #[.string f.1, .int .i64 f.2]) (.func (.func K) #[] #[])).run Tryz.prog w = .ok () w' ∧ BuIn w' b (N + 1) (fun g => if g = f then some K else T g) ∧ w.grownBy w' (some b) := by
 obtain ⟨D, hown, hT⟩ := h; have hown0 := hown; obtain ⟨es, clock, hb, _⟩ := hown; obtain ⟨w', hrun, hown', hg⟩ := hown0.update lawFun Tryz.underlying73 (by unfold maxLen; omega) (keyFunN f hf) (show heldN (.func (.func K) #[] #[]) = some (.held _, []) from rfl); have hm := hown0.isMap; have hkl : WideAt.IsKeyLit (fk f) := trivial; refine ⟨w', hrun, ⟨_, hown', fun g hgk => ?_⟩, hg⟩
 by_cases e : g = f
 ·subst e
  simp only [if_true]; exact ⟨has_put_same hm hkl _, fun z => atKey_put_same hm hkl _ z⟩
 ·simp only [if_neg e]
  have hne : fk g ≠ fk f := fun e' => e (fk_injN hgk hf e')
  have h1 := hT g hgk
  cases hTg : T g with
  | none =>
    rw [hTg] at h1; exact ⟨by rw [has_put_other hne]; exact h1.1, fun z => by rw [atKey_put_other hne]; exact h1.2 z⟩
  | some c' =>
    rw [hTg] at h1; exact ⟨by rw [has_put_other hne]; exact h1.1, fun z => by rw [atKey_put_other hne]; exact h1.2 z⟩
end
section
open Go Go.RowKit
def bOf (l : List UInt8) : ByteArray := ⟨l.toArray⟩
theorem bOf_size (l : List UInt8) : (bOf l).size = l.length := by simp [bOf, ByteArray.size]
theorem bOf_list (l : List UInt8) : (bOf l).toList = l := by rw [ByteArray.toList_eq]; rfl
def strV (x : List UInt8) : Value := .string (bOf x)
def numsU (l : List UInt8) : List Int := l.map (fun u => (u.toNat : Int))
theorem strOf_numsU (l : List UInt8) : strOfNums (numsU l) = bOf l := by
 apply ba_ext
 rw [str_list, numsU, map_forth, ByteArray.toList_eq]; rfl
theorem byte_numsU (l : List UInt8) : Byte (numsU l) := fun x hx => by
 simp only [numsU, List.mem_map] at hx; obtain ⟨u, _, rfl⟩ := hx; have := u.toNat_lt
 omega
theorem cell_lit (w : World) (vs : List Value) (t : TypeId) (i : Nat) (h : i < vs.length) : (w.alloc (.cells vs.toArray t)).cell? ⟨w.heap.size, i, none⟩ = some vs[i] := by
 rw [World.cell?_alloc_new]
 simp [h]
def wd (word : List UInt8) : List UInt8 → List (List UInt8)
 | [] => if word = [] then [] else [word]
 | b :: r => if b = 32 then (if word = [] then wd [] r else word :: wd [] r) else wd (word ++ [b]) r
theorem infoStr : (Tryz.prog.info? 9).map (fun i => (i.zero, i.size, i.bytes)) = some (some (.string ⟨#[]⟩), 1, 16) := by kernel_rfl
def bEnts : List (List UInt8 × Int) := [
 ([116, 114, 117, 101], 0),
 ([102, 97, 105, 108], 0),
 ([102, 97, 108, 115, 101], 0),
 ([61], 2),
 ([92, 61], 2),
 ([61, 61], 2),
 ([92, 61, 61], 2),
 ([64, 60], 2),
 ([64, 61, 60], 2),
 ([64, 62], 2),
 ([64, 62, 61], 2),
 ([99, 111, 109, 112, 97, 114, 101], 3),
 ([118, 97, 114], 1),
 ([110, 111, 110, 118, 97, 114], 1),
 ([97, 116, 111, 109], 1),
 ([105, 110, 116, 101, 103, 101, 114], 1),
 ([97, 116, 111, 109, 105, 99], 1),
 ([99, 111, 109, 112, 111, 117, 110, 100], 1),
 ([99, 97, 108, 108, 97, 98, 108, 101], 1),
 ([105, 115, 95, 108, 105, 115, 116], 1),
 ([103, 114, 111, 117, 110, 100], 1),
 ([105, 115], 2),
 ([61, 58, 61], 2),
 ([61, 92, 61], 2),
 ([60], 2),
 ([61, 60], 2),
 ([62], 2),
 ([62, 61], 2),
 ([102, 117, 110, 99, 116, 111, 114], 3),
 ([97, 114, 103], 3),
 ([61, 46, 46], 2),
 ([99, 111, 112, 121, 95, 116, 101, 114, 109], 2),
 ([108, 101, 110, 103, 116, 104], 2),
 ([97, 116, 111, 109, 95, 108, 101, 110, 103, 116, 104], 2),
 ([97, 116, 111, 109, 95, 99, 111, 100, 101, 115], 2),
 ([97, 116, 111, 109, 95, 99, 104, 97, 114, 115], 2),
 ([99, 104, 97, 114, 95, 99, 111, 100, 101], 2),
 ([110, 117, 109, 98, 101, 114, 95, 99, 111, 100, 101, 115], 2),
 ([109, 115, 111, 114, 116], 2),
 ([115, 111, 114, 116], 2),
 ([119, 114, 105, 116, 101], 1),
 ([119, 114, 105, 116, 101, 113], 1),
 ([112, 114, 105, 110, 116], 1),
 ([110, 108], 0),
 ([116, 97, 98], 1)]
end
section
open Go
section
variable {P : Program} {ops : Array Oper} {Q : Exit → Act → World → Prop} {md : Region.Mode} {S : World → Prop}
theorem hBoth {i j : Nat} {fuel : Nat} {listed : Array Bool} {a : Act} {w : World} (hr : Region.ready md ops listed = [i, j])
  (hi : wpOp P ops Q i (fun a' w' => S w' ∧ wpAnyH P md ops Q S fuel (listed.setIfInBounds i true) a' w') a w)
  (hj : wpOp P ops Q j (fun a' w' => S w' ∧ wpAnyH P md ops Q S fuel (listed.setIfInBounds j true) a' w') a w) : wpAnyH P md ops Q S (fuel + 1) listed a w := by
 refine wpAnyH_all hr (by simp) ?_
 intro k hk
 simp only [List.mem_cons, List.not_mem_nil, or_false] at hk
 rcases hk with rfl | rfl
 ·exact hi
 ·exact hj
theorem opStep {i : Nat} {v : Value} {K : Act → World → Prop} {a : Act} {w w' : World} (d : Option Tmp) (hd : (ops[i]?).map (·.dst) = some d) (hw : (ops[i]?).map (fun o => Region.wanted o (yielded ops a.tmps)) = some true)
  (hrun : ∀ o, ops[i]? = some o → (execOp a.eval o).run P w = .ok (.value v) w') (h : K (a.put d v) w') : wpOp P ops Q i K a w := by
 cases hi : ops[i]? with
 | none => simp [hi] at hd
 | some o =>
   have hd' : o.dst = d := by simpa [hi] using hd
   have hw' : Region.wanted o (yielded ops a.tmps) = true := by simpa [hi] using hw
   subst hd'
   unfold wpOp
   simp only [hi, hw', if_true, Oper.wp, hrun o hi, Oper.upon]; exact .inl h
theorem opCall {i : Nat} {f : FuncId} {args : Array Value} {R : Ending → World → Prop} {K : Act → World → Prop} {a : Act} {w : World} (d : Option Tmp) (hd : (ops[i]?).map (·.dst) = some d) (hw : (ops[i]?).map (fun o => Region.wanted o (yielded ops a.tmps)) = some true)
  (hrun : ∀ o, ops[i]? = some o → (execOp a.eval o).run P w = .ok (.enter f args) w) (hC : Calls P f args w R) (hK : ∀ u w', R (.returned u) w' → K (a.put d u) w')
  (hP : ∀ ch w', ¬ R (.panicked ch) w') (hO : ∀ w', ¬ R .outgrown w') : wpOp P ops Q i K a w := by
 cases hi : ops[i]? with
 | none => simp [hi] at hd
 | some o =>
   have hd' : o.dst = d := by simpa [hi] using hd
   have hw' : Region.wanted o (yielded ops a.tmps) = true := by simpa [hi] using hw
   subst hd'
   unfold wpOp
   simp only [hi, hw', if_true, Oper.wp, hrun o hi, Oper.upon]; refine .inl (hC.mono fun e w'' he => ?_)
   cases e with
   | returned u => exact hK u w'' he
   | panicked ch => exact absurd he (hP ch w'')
   | outgrown => exact absurd he (hO w'')
end
end
section
open Go Go.RowKit
def marks (k : Int) : Nat → List Int
 | 0 => []
 | n + 1 => (k % 256) :: marks (k + 1) n
theorem OwnS.kept {w w' : World} {B : Nat} {p : Option Addr} {n c : Nat} {ys : List Int} {row : Option Nat} (h : OwnS w B p n c ys) (hg : w.grownBy w' row) (hne : ∀ g, p = some ⟨g, 0, none⟩ → row ≠ some g) : OwnS w' B p n c ys := by
 obtain ⟨rfl, hr⟩ := h; refine ⟨rfl, hr.1, ?_⟩
 rcases hr.2 with h' | ⟨g, cap, cur, hv, hB, hg', r⟩
 ·exact .inl h'
 ·have hp : p = some ⟨g, 0, none⟩ := by simp only [Value.slice.injEq] at hv; exact hv.1
  exact .inr ⟨g, cap, cur, hv, hB, (hg.block g (Array.getElem?_eq_some_iff.1 hg').1 (fun e => hne g hp e.symm)).trans hg', r⟩
theorem OwnS.drewN {w : World} {B : Nat} {p : Option Addr} {n c : Nat} {ys : List Int} (h : OwnS w B p n c ys) (m : Nat) : OwnS (w.drewN m) B p n c ys := ⟨h.1, h.2⟩
def tb (p : Option Addr) (n : Nat) : Option Nat := if n = 0 then none else p.map Addr.block
structure Keep (B U : Nat) (w w' : World) : Prop where
 os : w'.os = w.os
 tape : w'.tape = w.tape
 output : w'.output = w.output
 size : w.heap.size ≤ w'.heap.size
 block : ∀ k, k < w.heap.size → (k < B ∨ U ≤ k) → w'.heap[k]? = w.heap[k]?
theorem Keep.refl (B U : Nat) (w : World) : Keep B U w w := ⟨rfl, rfl, rfl, Nat.le_refl _, fun _ _ _ => rfl⟩
theorem Keep.trans {B U : Nat} {a b c : World} (h : Keep B U a b) (k : Keep B U b c) : Keep B U a c :=
 ⟨k.os.trans h.os, k.tape.trans h.tape, k.output.trans h.output, Nat.le_trans h.size k.size, fun i hi hp => (k.block i (Nat.lt_of_lt_of_le hi h.size) hp).trans (h.block i hi hp)⟩
theorem Keep.below {B U : Nat} {w w' : World} (h : Keep B U w w') {A : Nat} (hA : A ≤ B) (hs : A ≤ w.heap.size) : Below A w w' := ⟨h.os, h.tape, h.output, h.size, fun k hk => h.block k (by omega) (.inl (by omega))⟩
theorem Keep.of_grown {B U : Nat} {w w' : World} {row : Option Nat} (h : w.grownBy w' row) (hr : ∀ k, row = some k → B ≤ k ∧ k < U) : Keep B U w w' :=
 ⟨h.os, h.tape, h.output, h.size, fun k hk hp => h.block k hk (fun e => by have := hr k e.symm; omega)⟩
theorem tb_of {g n : Nat} (h : 0 < n) : tb (some ⟨g, 0, none⟩) n = some g := by unfold tb; rw [if_neg (by omega)]; rfl
theorem tb_some {p : Option Addr} {n k : Nat} (h : tb p n = some k) : 0 < n ∧ ∃ a, p = some a ∧ a.block = k := by
 unfold tb at h
 split at h
 ·cases h
 ·cases p with
  | none => cases h
  | some a => exact ⟨by omega, a, rfl, Option.some.inj h⟩
theorem OwnT.tb {w : World} {B : Nat} {p : Option Addr} {n c : Nat} {ys : List Int} (h : OwnT w B p n c ys) {k : Nat} (e : tb p n = some k) : p = some ⟨k, 0, none⟩ ∧ B ≤ k ∧ k < w.heap.size := by
 obtain ⟨hn, a, rfl, rfl⟩ := tb_some e; obtain ⟨g, e', h1, h2, _⟩ := h.2 hn; obtain rfl := Option.some.inj e'; exact ⟨rfl, h1, h2⟩
theorem cs_set_at (cs : List Cel) (i j : Nat) (r : Cel) (h : i < cs.length) : (cs.set i r).getD j Cel.none = if j = i then r else cs.getD j Cel.none := by
 simp only [List.getD, List.getElem?_set]
 by_cases e : j = i
 ·subst e; simp [h]
 ·have : ¬ i = j := fun x => e x.symm
  simp [this, e]
def OwnCU (w : World) (B U : Nat) (p : Option Addr) (n c : Nat) (cs : List Cel) : Prop :=
 n = cs.length ∧ ∃ rs : List RC, rs.length = cs.length ∧ w.ownsRow B 63 3 (.slice p n c) n (flat rs) ∧ (∀ i, i < cs.length → Fits w B (rs.getD i RC.zero) (cs.getD i Cel.none)) ∧ ApartC p rs ∧
   (∀ k, Value.ownBlock (.slice p n c) = some k → k < U) ∧ (∀ i, i < cs.length → ∀ k, tb (rs.getD i RC.zero).2.2.1 (rs.getD i RC.zero).2.2.2.1 = some k → k < U)
theorem OwnCU.toC {w : World} {B U : Nat} {p : Option Addr} {n c : Nat} {cs : List Cel} (h : OwnCU w B U p n c cs) : OwnC w B p n c cs := by
 obtain ⟨hn, rs, hl, hr, hf, ha, _⟩ := h; exact ⟨hn, rs, hl, hr, hf, ha⟩
theorem OwnC.up {w : World} {B : Nat} {p : Option Addr} {n c : Nat} {cs : List Cel} (h : OwnC w B p n c cs) : OwnCU w B w.heap.size p n c cs := by
 obtain ⟨hn, rs, hl, hr, hf, ha⟩ := h; exact ⟨hn, rs, hl, hr, hf, ha, fun k hk => (hr.lt k hk).2, fun i hi k hk => ((hf i hi).2.2.tb hk).2.2⟩
theorem OwnCU.other {w w' : World} {B U : Nat} {p : Option Addr} {n c : Nat} {cs : List Cel} (h : OwnCU w B U p n c cs) (hs : w.heap.size ≤ w'.heap.size) (hb : ∀ k, k < w.heap.size → B ≤ k → k < U → w'.heap[k]? = w.heap[k]?) : OwnCU w' B U p n c cs := by
 obtain ⟨hn, rs, hl, hr, hf, ha, hu, ht⟩ := h; refine ⟨hn, rs, hl, ⟨hr.1, ?_⟩, fun i hi => ⟨(hf i hi).1, (hf i hi).2.1, (hf i hi).2.2.other hs (fun g hn0 e => ?_)⟩, ha, hu, ht⟩
 ·rcases hr.2 with h' | ⟨g, cap, cur, hv, hB, hg, r⟩
  ·exact .inl h'
  ·refine .inr ⟨g, cap, cur, hv, hB, (hb g (Array.getElem?_eq_some_iff.1 hg).1 hB (hu g ?_)).trans hg, r⟩
   simp only [Value.slice.injEq] at hv; rw [hv.1]; rfl
 ·have e' : Go.Proofs.YtkklidpnkofipaaGreatDoor.tb (rs.getD i RC.zero).2.2.1 (rs.getD i RC.zero).2.2.2.1 = some g := by rw [e]; exact tb_of hn0
  have := (hf i hi).2.2.tb e'; exact hb g this.2.2 this.2.1 (ht i hi g e')
theorem OwnCU.below {w w' : World} {B U : Nat} {p : Option Addr} {n c : Nat} {cs : List Cel} (h : OwnCU w B U p n c cs) (hb : Below w.heap.size w w') : OwnCU w' B U p n c cs := h.other hb.size (fun k hk _ _ => hb.block k hk)
theorem OwnCU.keep {w w' : World} {B U B' U' : Nat} {p : Option Addr} {n c : Nat} {cs : List Cel} (h : OwnCU w B U p n c cs) (hk : Keep B' U' w w') (ho : U ≤ B' ∨ U' ≤ B) : OwnCU w' B U p n c cs := h.other hk.size (fun k h1 h2 h3 => hk.block k h1 (by omega))
theorem infoCells : (Tryz.prog.info? 23).map (fun i => (i.zero, i.size, i.bytes)) = some (some (.slice none 0 0), 1, 24) := by kernel_rfl
abbrev It := Option Addr × Nat × Nat × Nat
def It.zero : It := (none, 0, 0, 0)
theorem ds_append_at (ds : List It) (r : It) (i : Nat) (h : i ≤ ds.length) : (ds ++ [r]).getD i It.zero = if i = ds.length then r else ds.getD i It.zero := by
 by_cases e : i = ds.length
 ·subst e; simp [List.getD]
 ·rw [if_neg e, List.getD, List.getD, List.getElem?_append_left (by omega)]
def tll : List (List Cel) → Nat
 | [] => 0
 | c :: r => c.length + tl c + tll r
theorem tll_at : ∀ (css : List (List Cel)) (i : Nat), i < css.length → (css.getD i []).length + tl (css.getD i []) ≤ tll css
 | [], i, h => by simp at h
 | c :: r, 0, _ => by simp [tll]
 | c :: r, i + 1, h => by have := tll_at r i (by simpa using h); simp only [tll, List.getD_cons_succ]; omega
end
section
open Go
def tab : List Int := [0, 0, 0, 0, 0, 0, 0, 0, 0, 16, 16, 0, 0, 16, 0, 0, 0, 0, 0, 0, 0, 0, 0, 0, 0, 0, 0, 0, 0, 0, 0, 0,
 16, 32, 0, 8, 8, 0, 8, 0, 64, 64, 8, 8, 64, 8, 8, 8, 4, 4, 4, 4, 4, 4, 4, 4, 4, 4, 8, 32, 8, 8, 8, 8,
 8, 2, 2, 2, 2, 2, 2, 2, 2, 2, 2, 2, 2, 2, 2, 2, 2, 2, 2, 2, 2, 2, 2, 2, 2, 2, 2, 64, 8, 64, 8, 2,
 0, 1, 1, 1, 1, 1, 1, 1, 1, 1, 1, 1, 1, 1, 1, 1, 1, 1, 1, 1, 1, 1, 1, 1, 1, 1, 1, 64, 64, 64, 8, 0]
def Bytes (xs : List Int) : Prop := ∀ x ∈ xs, 0 ≤ x ∧ x < 256
theorem Bytes.at {xs : List Int} (h : Bytes xs) (i : Nat) : 0 ≤ xs.getD i 0 ∧ xs.getD i 0 < 256 := by
 by_cases hi : i < xs.length
 ·have := h xs[i] (List.getElem_mem hi)
  simpa [List.getD, hi] using this
 ·simp [List.getD, List.getElem?_eq_none (Nat.le_of_not_lt hi)]
theorem Bytes.take {xs : List Int} (h : Bytes xs) (n : Nat) : Bytes (xs.take n) := fun x hx => h x (List.mem_of_mem_take hx)
theorem Bytes.drop {xs : List Int} (h : Bytes xs) (n : Nat) : Bytes (xs.drop n) := fun x hx => h x (List.mem_of_mem_drop hx)
end
section
open Go Go.RowKit
theorem news_of {w : World} {b o : Nat} {xs : List Int} (hc : ∀ i, i < xs.length → w.cell? ⟨b, o + i, none⟩ = some (.int .u8 (xs.getD i 0))) : ∀ j u, (xs.map (Value.int .u8))[j]? = some u → w.cell? ((⟨b, o, none⟩ : Addr).add j) = some u := fun j u hu => by
 have hj : j < xs.length := by
  rcases Nat.lt_or_ge j xs.length with h | h
  ·exact h
  ·simp [List.getElem?_eq_none h] at hu
 have e : (⟨b, o, none⟩ : Addr).add j = ⟨b, o + j, none⟩ := by unfold Addr.add; split <;> simp_all
 rw [e, hc j hj, ← hu]
 simp [List.getD, hj]
theorem app_nothing (w : World) {ops : Array Oper} {rest : List Oper} {o : Oper} {a : Act} {Q : Exit → Act → World → Prop} (hgd : o.guard = none) (s x : Operand)
  (ho : o.op = .call { callee := .builtin .append, args := #[s, x], argTypes := #[22, 22] }) (p : Option Addr) (n c : Nat) (hnc : n ≤ c) (hs : a.eval s = .slice p n c) (q : Option Addr) (c' : Nat) (hx : a.eval x = .slice q 0 c')
  (h : wpList Tryz.prog ops Q rest (a.put o.dst (.slice p n c)) w) : wpList Tryz.prog ops Q (o :: rest) a w := by
 obtain ⟨i0, hi, hz0, hz1, hz2⟩ := info_parts infoByte
 refine wpList_plain hgd fun K hK => ?_
 have hsrc : Src Tryz.prog i0.size 22 (.slice q 0 c') 0 [] w := by
  cases q with
  | none => exact Src.ofNil w Tryz.underlying22 c'
  | some ad => exact Src.ofSlice w Tryz.underlying22 ad 0 c' [] (by simp) (fun j u h => by simp at h) (fun u h => by cases h)
 have hr := fun ty => run_append_nothing (P := Tryz.prog) w 22 22 ty 5 i0 Tryz.underlying22 hi p n c hnc _ hsrc
 unfold Oper.wp
 simp [execOp, ho, resolve, invoke, builtin, hs, hx, hr, Result.andThen]
 exact hK _ _ h
theorem l1copy_all (p : Option Addr) (n c : Nat) (xs : List Int) (w : World) (hn : n = xs.length) (hm : n ≤ 10000000) (hc : BIn w p xs) :
  Calls Tryz.prog 120 #[.slice p n c] w fun e w' => ∃ p' n' c', e = .returned (.slice p' n' c') ∧ OwnS w' w.heap.size p' n' c' xs ∧ Below w.heap.size w w' := by
 by_cases h0 : 0 < n
 ·obtain ⟨b, o, rfl, hcc⟩ := hc (by omega)
  have HC : Hid (∀ i, i < xs.length → w.cell? ⟨b, o + i, none⟩ = some (.int .u8 (xs.getD i 0))) := hcc; have HN : Hid (n = xs.length) := hn; clear hc hn hcc
  go_enter Tryz.func120, Tryz.ntmps120
  go_wp2_with (at_builtin; refine app_bytes _ rfl _ _ rfl w.heap.size none 0 0 [] xs n HN.out rfl (OwnS.nil _ _) _ c rfl (news_of HC.out) h0 (by omega) (Nat.le_refl _) ?_; intro g n' cap w1 hown1 hb1 hn1); go_ret; exact ⟨_, _, _, rfl, hown1, hb1⟩
 ·obtain rfl : n = 0 := by omega
  obtain rfl : xs = [] := List.length_eq_zero_iff.1 hn.symm; clear hc hn
  go_enter Tryz.func120, Tryz.ntmps120
  go_wp2_with (at_builtin; refine app_nothing _ rfl _ _ rfl none 0 0 (Nat.le_refl _) rfl p c rfl ?_); go_ret; exact ⟨_, _, _, rfl, OwnS.nil _ _, Below.refl _ _⟩
end
end Go.Proofs.YtkklidpnkofipaaGreatDoor
