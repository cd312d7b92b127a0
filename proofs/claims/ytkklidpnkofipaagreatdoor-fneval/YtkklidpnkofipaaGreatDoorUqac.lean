/- Texts of EvA, Lay3, RegK, RegK2, KeyP, FunK, RegA, ErrIs. Own work of the verifier. -/
import Derived.Test.YtkklidpnkofipaaGreatDoorPre
import Derived.Below
import Derived.Deep.RegionHeld3
import Derived.Maps.OwnSet
import Derived.Maps.OwnOps
import Derived.Maps.RangeWalk
import Derived.DeepKeys4
import Derived.Orders
import Derived.Shelf.Abstract
import Derived.LaidEql
import Derived.Stop.Asserts
import Derived.RowKitTokens
namespace Go.Proofs.YtkklidpnkofipaaGreatDoor
set_option linter.unusedVariables false
section
open Go Go.RowKit
def InB (v : Int) : Prop := -1000000000000000 ≤ v ∧ v ≤ 1000000000000000
instance (v : Int) : Decidable (InB v) := inferInstanceAs (Decidable (_ ∧ _))
def Sat (v' v : Int) : Prop := (InB v ∧ v' = v) ∨ (¬ InB v ∧ ¬ InB v' ∧ -4000000000000000 ≤ v' ∧ v' ≤ 4000000000000000)
theorem bits_wrap (r : BitVec 64) : IntKind.i64.wrap (r.toNat : Int) = r.toInt := by
 rw [IntKind.wrap_i64, BitVec.toInt_eq_toNat_cond]; have h := r.isLt; simp only [Nat.reducePow] at h ⊢
 split <;> omega
theorem near_of {a : BitVec 64} (h : a.sshiftRight 50 = 0#64 ∨ a.sshiftRight 50 = BitVec.allOnes 64) : -1125899906842624 ≤ a.toInt ∧ a.toInt < 1125899906842624 := by
 have ht := BitVec.toInt_sshiftRight (x := a) (n := 50); rw [Int.shiftRight_eq_div_pow] at ht
 rcases h with h | h
 ·rw [h] at ht
  have e : (0#64 : BitVec 64).toInt = 0 := by decide
  rw [e] at ht
  have : ((2 ^ 50 : Nat) : Int) = 1125899906842624 := by decide
  rw [this] at ht
  omega
 ·rw [h] at ht
  have e : (BitVec.allOnes 64).toInt = -1 := by decide
  rw [e] at ht
  have : ((2 ^ 50 : Nat) : Int) = 1125899906842624 := by decide
  rw [this] at ht
  omega
theorem near_to {x : Int} (h : InB x) : (BitVec.ofInt 64 x).sshiftRight 50 = 0#64 ∨ (BitVec.ofInt 64 x).sshiftRight 50 = BitVec.allOnes 64 := by
 have ht := BitVec.toInt_sshiftRight (x := BitVec.ofInt 64 x) (n := 50)
 have hx : (BitVec.ofInt 64 x).toInt = x := by
  rw [BitVec.toInt_ofInt]
  unfold InB at h
  unfold Int.bmod
  simp only [Nat.reducePow]
  split <;> omega
 rw [hx, Int.shiftRight_eq_div_pow] at ht
 have hp : ((2 ^ 50 : Nat) : Int) = 1125899906842624 := by decide
 rw [hp] at ht
 unfold InB at h
 by_cases h0 : 0 ≤ x
 ·left
  apply BitVec.eq_of_toInt_eq
  rw [ht, show (0#64 : BitVec 64).toInt = 0 by decide]
  omega
 ·right
  apply BitVec.eq_of_toInt_eq
  rw [ht, show (BitVec.allOnes 64).toInt = -1 by decide]
  omega
def near (v : Int) : Prop := -1125899906842624 ≤ v ∧ v < 1125899906842624
theorem bits_and_near {x y : Int} (hx : InB x) (hy : InB y) : near (bits .and .i64 x y) := by
 show near (IntKind.i64.wrap ((BitVec.ofInt 64 x &&& BitVec.ofInt 64 y).toNat : Int))
 rw [bits_wrap]
 apply near_of
 rw [BitVec.sshiftRight_and_distrib]
 rcases near_to hx with h | h <;> rcases near_to hy with h' | h' <;> rw [h, h'] <;> decide
theorem bits_or_near {x y : Int} (hx : InB x) (hy : InB y) : near (bits .or .i64 x y) := by
 show near (IntKind.i64.wrap ((BitVec.ofInt 64 x ||| BitVec.ofInt 64 y).toNat : Int))
 rw [bits_wrap]
 apply near_of
 rw [BitVec.sshiftRight_or_distrib]
 rcases near_to hx with h | h <;> rcases near_to hy with h' | h' <;> rw [h, h'] <;> decide
theorem bits_xor_near {x y : Int} (hx : InB x) (hy : InB y) : near (bits .xor .i64 x y) := by
 show near (IntKind.i64.wrap ((BitVec.ofInt 64 x ^^^ BitVec.ofInt 64 y).toNat : Int))
 rw [bits_wrap]
 apply near_of
 rw [BitVec.sshiftRight_xor_distrib]
 rcases near_to hx with h | h <;> rcases near_to hy with h' | h' <;> rw [h, h'] <;> decide
theorem bits_not {x : Int} (hx : InB x) : bits .xor .i64 (-1) x = -x - 1 := by
 show IntKind.i64.wrap ((BitVec.ofInt 64 (-1) ^^^ BitVec.ofInt 64 x).toNat : Int) = _
 rw [bits_wrap, show BitVec.ofInt 64 (-1) = BitVec.allOnes 64 by decide, BitVec.allOnes_xor, BitVec.toInt_not, BitVec.toNat_ofInt]
 unfold InB at hx
 unfold Int.bmod
 simp only [Nat.reducePow]
 split <;> omega
theorem inB_abs (v : Int) : InB v ↔ v.natAbs ≤ 1000000000000000 := by unfold InB; omega
theorem inB_mul (a b : Int) : InB (a * b) ↔ a.natAbs * b.natAbs ≤ 1000000000000000 := by rw [inB_abs, Int.natAbs_mul]
theorem prod_ahead {a b : Int} (h0 : a ≠ 0) : ((1000000000000000 : Int) / (a.natAbs : Int) < (b.natAbs : Int)) ↔ ¬ InB (a * b) := by
 have hp : 0 < a.natAbs := by omega
 rw [inB_mul, show (1000000000000000 : Int) / (a.natAbs : Int) = ((1000000000000000 / a.natAbs : Nat) : Int) by rfl]; have := Nat.le_div_iff_mul_le (x := b.natAbs) (y := 1000000000000000) hp; rw [Nat.mul_comm] at this
 omega
theorem times_back {a b p : Int} (hb : b ≠ 0) (hp : p = IntKind.i64.wrap (a * b)) : (p.tdiv b ≠ a ∨ ¬ InB p) ↔ ¬ InB (a * b) := by
 constructor
 ·intro h hin
  have e : p = a * b := by
   rw [hp, IntKind.wrap_i64]
   unfold InB at hin
   omega
  rcases h with h | h
  ·rw [e, Int.mul_tdiv_cancel _ hb] at h
   exact h rfl
  ·rw [e] at h
   exact h hin
 ·intro h
  by_cases hq : p.tdiv b = a
  ·right
   intro hin
   apply h
   rw [inB_mul, ← hq, Int.natAbs_tdiv]; rw [inB_abs] at hin; exact Nat.le_trans (Nat.div_mul_le_self _ _) hin
  ·exact .inl hq
theorem pow_abs (x : Int) (n : Nat) : (x ^ n).natAbs = x.natAbs ^ n := Int.natAbs_pow x n
theorem pow_grows {x : Int} (hx : 2 ≤ x.natAbs) {i j : Nat} (h : i ≤ j) (hi : ¬ InB (x ^ i)) : ¬ InB (x ^ j) := by
 rw [inB_abs, pow_abs] at hi ⊢; have := Nat.pow_le_pow_right (n := x.natAbs) (by omega) h
 omega
theorem pow_one_abs {x : Int} (hx : x.natAbs = 1) (y : Nat) : x ^ y = if y % 2 = 0 then 1 else x := by
 have h : x = 1 ∨ x = -1 := by omega
 rcases h with rfl | rfl
 ·rw [Int.one_pow]; split <;> rfl
 ·induction y with
  | zero => rfl
  | succ n ih =>
    rw [Int.pow_succ, ih]
    by_cases h : n % 2 = 0
    ·rw [if_pos h, if_neg (by omega)]; rfl
    ·rw [if_neg h, if_pos (by omega)]; rfl
theorem two_pow_big {n : Nat} (h : 50 ≤ n) : (1000000000000000 : Int) < 2 ^ n := by
 have h1 : (2 : Nat) ^ 50 ≤ 2 ^ n := Nat.pow_le_pow_right (by decide) h
 have h2 : ((2 ^ n : Nat) : Int) = (2 : Int) ^ n := by simp
 rw [← h2]
 have h3 : (2 : Nat) ^ 50 = 1125899906842624 := by decide
 omega
theorem mul_far {x b : Int} (hx : x ≠ 0) (hb : 1000000000000000 < b) : ¬ InB (x * b) := by
 rw [inB_mul]
 have h1 : 1 ≤ x.natAbs := by omega
 have h2 : 1000000000000000 < b.natAbs := by omega
 have := Nat.mul_le_mul h1 (Nat.le_refl b.natAbs)
 omega
theorem shl_same {x : Int} {y : Nat} : (InB (x * 2 ^ min y 50) ↔ InB (x * 2 ^ y)) ∧ (InB (x * 2 ^ y) → x * 2 ^ min y 50 = x * 2 ^ y) := by
 by_cases h : y ≤ 50
 ·rw [Nat.min_eq_left h]; exact ⟨Iff.rfl, fun _ => rfl⟩
 ·rw [Nat.min_eq_right (by omega)]
  by_cases hx : x = 0
  ·subst hx; simp
  ·have h1 := mul_far hx (two_pow_big (Nat.le_refl 50))
   have h2 := mul_far hx (two_pow_big (n := y) (by omega)); exact ⟨⟨fun h => absurd h h1, fun h => absurd h h2⟩, fun h => absurd h h2⟩
theorem lay3 (w : World) (o0 o1 o2 : Obj) (W : World) (h : W = ((w.alloc o0).alloc o1).alloc o2) :
  Below w.heap.size w W ∧ W.heap[w.heap.size]? = some o0 ∧ W.heap[w.heap.size + 1]? = some o1 ∧ W.heap[w.heap.size + 1 + 1]? = some o2 := by
 subst h
 have hb : ∀ (V : World) (o : Obj), Below w.heap.size w V → Below w.heap.size w (V.alloc o) := fun V o h => h.alloc h.size o
 refine ⟨hb _ _ (hb _ _ (hb _ _ (Below.refl _ _))), ?_, ?_, ?_⟩
 ·show (((w.heap.push o0).push o1).push o2)[w.heap.size]? = some o0
  simp only [Array.getElem?_push, Array.size_push]
  repeat' split
  all_goals first | rfl | omega | (exact absurd trivial ‹¬True›)
 ·show (((w.heap.push o0).push o1).push o2)[w.heap.size + 1]? = some o1
  simp only [Array.getElem?_push, Array.size_push]
  repeat' split
  all_goals first | rfl | omega | (exact absurd trivial ‹¬True›)
 ·show (((w.heap.push o0).push o1).push o2)[w.heap.size + 1 + 1]? = some o2
  simp only [Array.getElem?_push, Array.size_push]
  repeat' split
  all_goals first | rfl | omega | (exact absurd trivial ‹¬True›)
end
section
open Go
section
variable {P : Program} {ops : Array Oper} {Q : Exit → Act → World → Prop} {md : Region.Mode} {S : World → Prop}
theorem hTake {i : Nat} {v : Value} {fuel : Nat} {listed : Array Bool} {a : Act} {w : World} (d : Option Tmp) (hd : (ops[i]?).map (·.dst) = some d)
  (hs : Region.noSelect ops = true) (hf : Region.free md ops listed i = true) (hr : (Region.ready md ops listed).contains i = true) (hw : (ops[i]?).map (fun o => Region.wanted o (yielded ops a.tmps)) = some true)
  (hQ : ∀ c a w, Q (.panic c) (a.put d v) w → Q (.panic c) a w) (hrun : ∀ o, ops[i]? = some o → ∀ w, S w → (execOp a.eval o).run P w = .ok (.value v) w) (hS : S w)
  (h : wpAnyH P md ops Q S fuel (listed.setIfInBounds i true) (a.put d v) w) : wpAnyH P md ops Q S (fuel + 1) listed a w := by
 cases hi : ops[i]? with
 | none => simp [hi] at hd
 | some o =>
   have hd' : o.dst = d := by simpa [hi] using hd
   have hw' : Region.wanted o (yielded ops a.tmps) = true := by simpa [hi] using hw
   subst hd'; exact wpAnyH_take hi hs hf hr hQ (.inl ⟨hw', hrun o hi⟩) hS h
theorem hSkip {i : Nat} {fuel : Nat} {listed : Array Bool} {a : Act} {w : World} (d : Option Tmp) (hd : (ops[i]?).map (·.dst) = some d)
  (hs : Region.noSelect ops = true) (hf : Region.free md ops listed i = true) (hr : (Region.ready md ops listed).contains i = true) (hw : (ops[i]?).map (fun o => Region.wanted o (yielded ops a.tmps)) = some false)
  (hQ : ∀ c a w, Q (.panic c) (a.put d undef) w → Q (.panic c) a w) (hS : S w)
  (h : wpAnyH P md ops Q S fuel (listed.setIfInBounds i true) (a.put d undef) w) : wpAnyH P md ops Q S (fuel + 1) listed a w := by
 cases hi : ops[i]? with
 | none => simp [hi] at hd
 | some o =>
   have hd' : o.dst = d := by simpa [hi] using hd
   have hw' : Region.wanted o (yielded ops a.tmps) = false := by simpa [hi] using hw
   subst hd'; exact wpAnyH_take hi hs hf hr hQ (.inr ⟨hw', rfl⟩) hS h
theorem hTk {i : Nat} {v : Value} {fuel : Nat} {listed : Array Bool} {a : Act} {w : World} (d : Option Tmp) (hrun : ∀ o, ops[i]? = some o → ∀ w, S w → (execOp a.eval o).run P w = .ok (.value v) w) (hS : S w)
  (h : wpAnyH P md ops Q S fuel (listed.setIfInBounds i true) (a.put d v) w) (hQ : ∀ c a w, Q (.panic c) (a.put d v) w → Q (.panic c) a w := by exact fun _ _ _ h => h) (hd : (ops[i]?).map (·.dst) = some d := by kernel_rfl)
  (hs : Region.noSelect ops = true := by kernel_rfl) (hf : Region.free md ops listed i = true := by kernel_rfl) (hr : (Region.ready md ops listed).contains i = true := by kernel_rfl) (hw : (ops[i]?).map (fun o => Region.wanted o (yielded ops a.tmps)) = some true := by kernel_rfl) : wpAnyH P md ops Q S (fuel + 1) listed a w := hTake d hd hs hf hr hw hQ hrun hS h
theorem hSk {i : Nat} {fuel : Nat} {listed : Array Bool} {a : Act} {w : World} (d : Option Tmp) (hS : S w)
  (h : wpAnyH P md ops Q S fuel (listed.setIfInBounds i true) (a.put d undef) w) (hQ : ∀ c a w, Q (.panic c) (a.put d undef) w → Q (.panic c) a w := by exact fun _ _ _ h => h) (hd : (ops[i]?).map (·.dst) = some d := by kernel_rfl)
  (hs : Region.noSelect ops = true := by kernel_rfl) (hf : Region.free md ops listed i = true := by kernel_rfl) (hr : (Region.ready md ops listed).contains i = true := by kernel_rfl) (hw : (ops[i]?).map (fun o => Region.wanted o (yielded ops a.tmps)) = some false := by kernel_rfl) : wpAnyH P md ops Q S (fuel + 1) listed a w := hSkip d hd hs hf hr hw hQ hS h
theorem hCall {i : Nat} {f : FuncId} {args : Array Value} {v : Value} {T : World → Prop} {fuel : Nat} {listed : Array Bool} {a : Act} {w : World} (d : Option Tmp) (hd : (ops[i]?).map (·.dst) = some d)
  (hr : Region.ready md ops listed = [i]) (hw : (ops[i]?).map (fun o => Region.wanted o (yielded ops a.tmps)) = some true)
  (hrun : ∀ o, ops[i]? = some o → (execOp a.eval o).run P w = .ok (.enter f args) w) (hC : Calls P f args w fun e w' => e = .returned v ∧ T w')
  (hK : ∀ w', T w' → S w' ∧ wpAnyH P md ops Q S fuel (listed.setIfInBounds i true) (a.put d v) w') : wpAnyH P md ops Q S (fuel + 1) listed a w := by
 refine wpAnyH_all hr (by simp) ?_
 intro j hj
 obtain rfl : j = i := by simpa using hj
 cases hi : ops[j]? with
 | none => simp [hi] at hd
 | some o =>
   have hd' : o.dst = d := by simpa [hi] using hd
   have hw' : Region.wanted o (yielded ops a.tmps) = true := by simpa [hi] using hw
   subst hd'
   unfold wpOp
   simp only [hi, hw', if_true, Oper.wp, hrun o hi, Oper.upon]; refine .inl (hC.mono fun e w'' he => ?_); obtain ⟨rfl, ht⟩ := he; exact hK _ ht
end
theorem hStep {P : Program} {ops : Array Oper} {Q : Exit → Act → World → Prop} {md : Region.Mode} {S : World → Prop} {i : Nat} {v : Value} {fuel : Nat} {listed : Array Bool} {a : Act} {w w' : World} (d : Option Tmp) (hd : (ops[i]?).map (·.dst) = some d)
  (hr : Region.ready md ops listed = [i]) (hw : (ops[i]?).map (fun o => Region.wanted o (yielded ops a.tmps)) = some true)
  (hrun : ∀ o, ops[i]? = some o → (execOp a.eval o).run P w = .ok (.value v) w') (hS : S w') (h : wpAnyH P md ops Q S fuel (listed.setIfInBounds i true) (a.put d v) w') : wpAnyH P md ops Q S (fuel + 1) listed a w := by
 refine wpAnyH_all hr (by simp) ?_
 intro j hj
 obtain rfl : j = i := by simpa using hj
 cases hi : ops[j]? with
 | none => simp [hi] at hd
 | some o =>
   have hd' : o.dst = d := by simpa [hi] using hd
   have hw' : Region.wanted o (yielded ops a.tmps) = true := by simpa [hi] using hw
   subst hd'
   unfold wpOp
   simp only [hi, hw', if_true, Oper.wp, hrun o hi, Oper.upon]; exact .inl ⟨hS, h⟩
theorem hCallE {P : Program} {ops : Array Oper} {Q : Exit → Act → World → Prop} {md : Region.Mode} {S : World → Prop} {i : Nat} {f : FuncId} {args : Array Value} {R : Ending → World → Prop} {fuel : Nat} {listed : Array Bool} {a : Act} {w : World} (d : Option Tmp) (hd : (ops[i]?).map (·.dst) = some d)
  (hr : Region.ready md ops listed = [i]) (hw : (ops[i]?).map (fun o => Region.wanted o (yielded ops a.tmps)) = some true)
  (hrun : ∀ o, ops[i]? = some o → (execOp a.eval o).run P w = .ok (.enter f args) w) (hC : Calls P f args w R) (hK : ∀ u w', R (.returned u) w' → S w' ∧ wpAnyH P md ops Q S fuel (listed.setIfInBounds i true) (a.put d u) w')
  (hP : ∀ ch w', ¬ R (.panicked ch) w') (hO : ∀ w', ¬ R .outgrown w') : wpAnyH P md ops Q S (fuel + 1) listed a w := by
 refine wpAnyH_all hr (by simp) ?_
 intro j hj
 obtain rfl : j = i := by simpa using hj
 cases hi : ops[j]? with
 | none => simp [hi] at hd
 | some o =>
   have hd' : o.dst = d := by simpa [hi] using hd
   have hw' : Region.wanted o (yielded ops a.tmps) = true := by simpa [hi] using hw
   subst hd'
   unfold wpOp
   simp only [hi, hw', if_true, Oper.wp, hrun o hi, Oper.upon]; refine .inl (hC.mono fun e w'' he => ?_)
   cases e with
   | returned u => exact hK u w'' he
   | panicked ch => exact absurd he (hP ch w'')
   | outgrown => exact absurd he (hO w'')
end
section
open Go Go.RowKit Go.Maps
theorem keyPair (P : Program) (k s i : TypeId) (F : Array Field) (f0 f1 : Field) (hF : F = #[f0, f1]) (hu : P.underlying k = some (.struct F)) (t0 : f0.type = s) (o0 : f0.offset = 0) (t1 : f1.type = i) (o1 : f1.offset = 1) (n0 : (f0.name != "_") = true) (n1 : (f1.name != "_") = true)
  (hs : P.underlying s = some .string) (hi : P.underlying i = some (.int .i64)) (ck : P.cellsOf k = 2) (cs : P.cellsOf s = 1) (ci : P.cellsOf i = 1) (ht : P.keyType k = true) (n : Nat) (hn : P.types.size = n + 1) (x : ByteArray) (y : Int) (hx : x.size ≤ maxLen) (hw : (Lit.int .i64 y).wf = true) :
  keyOf P k (.agg #[.string x, .int .i64 y]) = some (.string (keyBytes [.string x.data.toList, .int .i64 y])) := by
 subst hF
 have e0 : P.keyLits (n + 1) s [.string x] = some [.string x.data.toList] := by unfold Program.keyLits; rw [hs]; simp [hx]
 have e1 : P.keyLits (n + 1) i [.int .i64 y] = some [.int .i64 y] := by unfold Program.keyLits; rw [hi]; simp [hw]
 have e2 : P.keyLits (P.types.size + 1) k [.string x, .int .i64 y] = some [.string x.data.toList, .int .i64 y] := by
  rw [hn]
  unfold Program.keyLits
  rw [hu]
  simp [ck, n0, n1, t0, t1, o0, o1, cs, ci, e0, e1]
 have e3 : (Value.agg #[.string x, .int .i64 y]).formed P k = true := by simp [Value.formed, hu, ck]
 unfold keyOf
 rw [hu]; simp only [ht, e3, Bool.and_self, if_true]
 have e4 : (Value.agg #[.string x, .int .i64 y]).cells.toList = [.string x, .int .i64 y] := by simp [Value.cells]
 rw [e4, e2]
 rfl
theorem keyStr_inv {P : Program} {s : TypeId} (hs : P.underlying s = some .string) {n : Nat} {cs : List Value} {L : List Lit} (h : P.keyLits (n + 1) s cs = some L) : ∃ x, cs = [.string x] := by
 unfold Program.keyLits at h
 rw [hs] at h
 match cs, h with
 | [.string x], _ => exact ⟨x, rfl⟩
theorem keyInt_inv {P : Program} {s : TypeId} (hs : P.underlying s = some (.int .i64)) {n : Nat} {cs : List Value} {L : List Lit} (h : P.keyLits (n + 1) s cs = some L) : ∃ x, cs = [.int .i64 x] := by
 unfold Program.keyLits at h
 rw [hs] at h
 match cs, h with
 | [.int q x], h =>
   simp only at h
   split at h
   ·rename_i hq; exact ⟨x, by rw [hq.1]⟩
   ·cases h
theorem keyPair_inv (P : Program) (k s i : TypeId) (F : Array Field) (f0 f1 : Field) (hF : F = #[f0, f1]) (hu : P.underlying k = some (.struct F)) (t0 : f0.type = s) (o0 : f0.offset = 0) (t1 : f1.type = i) (o1 : f1.offset = 1) (n0 : (f0.name != "_") = true) (n1 : (f1.name != "_") = true)
  (hs : P.underlying s = some .string) (hi : P.underlying i = some (.int .i64)) (ck : P.cellsOf k = 2) (cs : P.cellsOf s = 1) (ci : P.cellsOf i = 1) (n : Nat) (hn : P.types.size = n + 1) {v : Value} {l : Lit} (h : keyOf P k v = some l) :
  ∃ (x : ByteArray) (y : Int), v = .agg #[.string x, .int .i64 y] := by
 subst hF
 have hwide : (match P.underlying k with | some (.array _ _) | some (.struct _) => true | _ => false) = true := by rw [hu]
 obtain ⟨xs, L, rfl, h1, _⟩ := keyOf_top hwide h; obtain ⟨xl⟩ := xs; rw [hn] at h1
 unfold Program.keyLits at h1
 rw [hu] at h1; simp only [ck] at h1
 split at h1
 ·rename_i hl
  obtain ⟨a, b, rfl⟩ : ∃ a b, xl = [a, b] := by
   match xl, hl.1 with
   | [a, b], _ => exact ⟨a, b, rfl⟩
  simp only [t0, t1, o0, o1, cs, ci, List.drop_zero, List.take_succ_cons, List.take_zero, List.drop_succ_cons, List.mapM_cons, List.mapM_nil, Option.pure_def, Option.bind_eq_bind] at h1
  cases e0 : P.keyLits (n + 1) s [a] with
  | none => simp [e0] at h1
  | some L0 =>
    cases e1 : P.keyLits (n + 1) i [b] with
    | none => simp [e0, e1] at h1
    | some L1 =>
      obtain ⟨x, hx⟩ := keyStr_inv hs e0; obtain ⟨y, hy⟩ := keyInt_inv hi e1; simp only [List.cons.injEq, and_true] at hx hy; exact ⟨x, y, by rw [hx, hy]⟩
 ·cases h1
abbrev Fun := ByteArray × Int
theorem laidFun : laidOutB Tryz.prog = true := by kernel_rfl
theorem rowFun : (76 : TypeId) < Tryz.prog.types.size := of_decide_eq_true (by kernel_rfl)
theorem keyAtFun : Tryz.prog.keyTypeAt 3 76 = true := by kernel_rfl
set_option maxRecDepth 100000 in
theorem lawFunK : WideMaps.KeyLaw Tryz.prog 76 := deep_law_laid laidFun (m := 3) (by decide) rowFun keyAtFun (by kernel_rfl)
theorem lawFun : Keyed Tryz.prog 76 := Keyed.of_law lawFunK
theorem typFun : Tryz.prog.keyType 76 = true := by kernel_rfl
theorem cellsFun : Tryz.prog.cellsOf 76 = 2 := by kernel_rfl
theorem cellsStr : Tryz.prog.cellsOf 9 = 1 := by kernel_rfl
theorem cellsIn : Tryz.prog.cellsOf 3 = 1 := by kernel_rfl
def fk (f : Fun) : Lit := .string (keyBytes [.string f.1.data.toList, .int .i64 f.2])
theorem nTypes : ∃ n, Tryz.prog.types.size = n + 1 := by
 have h : 76 < Tryz.prog.types.size := rowFun
 generalize Tryz.prog.types.size = m at h
 exact ⟨m - 1, by omega⟩
theorem keyFun (f : Fun) (hs : f.1.size ≤ 1000000) (h0 : 0 ≤ f.2) (h1 : f.2 ≤ 1000000) : keyOf Tryz.prog 76 (.agg #[.string f.1, .int .i64 f.2]) = some (fk f) := by
 obtain ⟨n, hn⟩ := nTypes
 have hx : f.1.size ≤ maxLen := by unfold maxLen; omega
 have hw : (Lit.int .i64 f.2).wf = true := WalkArith.wf_i64 (by omega); exact keyPair Tryz.prog 76 9 3 _ _ _ rfl Tryz.underlying76 rfl rfl rfl rfl (by decide) (by decide) Tryz.underlying9 Tryz.underlying3 cellsFun cellsStr cellsIn typFun n hn f.1 f.2 hx hw
theorem fk_inj {f g : Fun} (hf : f.1.size ≤ 1000000 ∧ 0 ≤ f.2 ∧ f.2 ≤ 1000000) (hg : g.1.size ≤ 1000000 ∧ 0 ≤ g.2 ∧ g.2 ≤ 1000000) (h : fk f = fk g) : f = g := by
 have h1 := keyFun f hf.1 hf.2.1 hf.2.2; have h2 := keyFun g hg.1 hg.2.1 hg.2.2; rw [← h] at h2; have := lawFun.inj h1 h2; obtain ⟨f1, f2⟩ := f; obtain ⟨g1, g2⟩ := g
 simpa using this
end
section
open Go Go.RowKit Go.Maps Go.Shelf
set_option linter.unusedSimpArgs false
def unl (L : Array Bool) : Nat := (L.toList.filter (fun b => !b)).length
theorem unl_list : ∀ (l : List Bool) (i : Nat), l[i]? = some false → ((l.set i true).filter (fun b => !b)).length + 1 = (l.filter (fun b => !b)).length
 | [], i, h => by simp at h
 | b :: r, 0, h => by
   simp only [List.getElem?_cons_zero, Option.some.injEq] at h; subst h
   simp
 | b :: r, i + 1, h => by
   have := unl_list r i (by simpa using h)
   cases b <;> simp [List.set_cons_succ, List.filter_cons] <;> omega
theorem getD_list {L : Array Bool} {i : Nat} (h : L.getD i true = false) : L.toList[i]? = some false := by
 simp only [Array.getD_eq_getD_getElem?] at h; rw [Array.getElem?_toList]
 cases he : L[i]? with
 | none => rw [he] at h; cases h
 | some b => rw [he] at h; simp at h; rw [h]
theorem unl_set {L : Array Bool} {i : Nat} (h : L.getD i true = false) : unl (L.setIfInBounds i true) + 1 = unl L := by
 unfold unl
 rw [Array.toList_setIfInBounds]; exact unl_list _ _ (getD_list h)
theorem unl_zero {L : Array Bool} (h : unl L = 0) (i : Nat) : L.getD i true ≠ false := fun e => by
 have := unl_set e
 omega
section
variable {P : Program} {ops : Array Oper} {Q : Exit → Act → World → Prop} {md : Region.Mode}
theorem wpAny_inv (I : Array Bool → Act → World → Prop) (hS : ∀ L a w, I L a w → ∀ i ∈ Region.ready md ops L, wpOp P ops Q i (fun a' w' => I (L.setIfInBounds i true) a' w') a w)
  (hE : ∀ L a w, I L a w → Region.ready md ops L = [] → Q .normal a w) : ∀ (fuel : Nat) (L : Array Bool) (a : Act) (w : World), I L a w → unl L ≤ fuel → wpAny P md ops Q fuel L a w
 | 0, L, a, w, h, hu => by
   have hr : Region.ready md ops L = [] := by
    cases hh : Region.ready md ops L with
    | nil => rfl
    | cons i r =>
      have : i ∈ Region.ready md ops L := by rw [hh]; simp
      exact absurd (mem_ready.1 this).1 (unl_zero (by omega) i)
   exact ⟨hr, hE L a w h hr⟩
 | fuel + 1, L, a, w, h, hu => by
   refine ⟨fun hr => hE L a w h hr, fun i hi => ?_⟩; have h1 := unl_set (mem_ready.1 hi).1; exact wpOp_mono (fun a' w' h' => wpAny_inv I hS hE fuel _ a' w' h' (by omega)) (hS L a w h i hi)
theorem op_value {i : Nat} {o : Oper} {a : Act} {w w' : World} {v : Value} {K : Act → World → Prop} (hi : ops[i]? = some o) (hg : o.guard = none) (hr : (execOp a.eval o).run P w = .ok (.value v) w') (h : K (a.put o.dst v) w') : wpOp P ops Q i K a w := by
 unfold wpOp
 simp only [hi, Region.wanted, hg, if_true, Oper.wp, hr, Oper.upon]; exact .inl h
end
theorem put_other {a : Act} {d p : Nat} {v : Value} (h : d ≠ p) : (a.put (some d) v).tmps[p]? = a.tmps[p]? := by simp [Act.put, Array.getElem?_setIfInBounds_ne h]
theorem put_same {a : Act} {d : Nat} {v : Value} (h : d < a.tmps.size) : (a.put (some d) v).tmps[d]? = some v := by simp [Act.put, h]
theorem put_size {a : Act} {d : Option Nat} {v : Value} : (a.put d v).tmps.size = a.tmps.size := by cases d <;> simp [Act.put]
theorem put_defs {a : Act} {d : Option Nat} {v : Value} : (a.put d v).defers = a.defers := by cases d <;> rfl
theorem set_at {L : Array Bool} {i p : Nat} (h : (L.setIfInBounds i true).getD p false = true) (hne : i ≠ p) : L.getD p false = true := by rwa [getD_set_ne false hne] at h
theorem dep_of {o : Oper} {i : Nat} {L : Array Bool} (h : (o.after.toList.any fun e => (e.on == i) && Region.binds .any e) = true) (hr : ∀ e ∈ o.after, Region.binds .any e = true → L.getD e.on false = true) : L.getD i false = true := by
 obtain ⟨e, he, h2⟩ := List.any_eq_true.1 h; simp only [Bool.and_eq_true, beq_iff_eq] at h2; rw [← h2.1]; exact hr e (by simpa using he) h2.2
theorem unl_le (L : Array Bool) : unl L ≤ L.size := by
 unfold unl
 have := List.length_filter_le (fun b => !b) L.toList
 simpa using this
theorem eval_tmp {a : Act} {p : Nat} {v : Value} (h : a.tmps[p]? = some v) : a.eval (.tmp p) = v := by simp [Act.eval, h]
theorem getD_false {L : Array Bool} {i : Nat} (h : L.getD i true = false) : L.getD i false = false := by
 simp only [Array.getD_eq_getD_getElem?] at h ⊢
 cases he : L[i]? with
 | none => rfl
 | some b => rw [he] at h; exact h
theorem set_self {L : Array Bool} {i : Nat} (h : i < L.size) : (L.setIfInBounds i true).getD i false = true := by simp [h]
end
section
open Go Go.RowKit Go.Extern
theorem eiTypeOf (v : Value) (w : World) : (Extern.ReflectliteType.typeOf #[.iface 466 v]).run Tryz.prog w = .ok (.iface 169 (.agg #[.pointer (some ⟨11, 466, none⟩)])) w := by kernel_rfl
theorem eiFind : (Extern.find Tryz.f458).isSome = true := by kernel_rfl
theorem eiComparable (w : World) : (((Extern.find Tryz.f458).get eiFind) #[.agg #[.pointer (some ⟨11, 466, none⟩)]]).run Tryz.prog w = .ok (.bool true) w := by kernel_rfl
theorem eiCall (w : World) : (callFunc 458 #[.agg #[.pointer (some ⟨11, 466, none⟩)]]).run Tryz.prog w = .ok (.value (.bool true)) w := by
 rw [run_callFunc_extern Tryz.func458 (by kernel_rfl) (by kernel_rfl) (by kernel_rfl) (Option.some_get eiFind).symm, eiComparable]
 rfl
theorem eiMethod (v : Value) (w : World) : (Go.method 602 169 v "Comparable").run Tryz.prog w = .ok (458, v) w := by kernel_rfl
theorem eiComp : (Tryz.prog.info? 466).map (·.comparable) = some true := by kernel_rfl
theorem eiSize : (Tryz.prog.info? 491).map (·.size) = some 1 := by kernel_rfl
theorem is_same (a : Addr) (w : World) :
  Calls Tryz.prog 111 #[.iface 466 (.pointer (some a)), .iface 466 (.pointer (some a))] w fun e w' => e = .returned (.bool true) ∧ w' = w := by
 obtain ⟨i, hi, hcmp⟩ := Option.map_eq_some_iff.1 eiComp; obtain ⟨j, hj, hjs⟩ := Option.map_eq_some_iff.1 eiSize; have h8 := @run_callFunc_extern Tryz.prog 155 _ Extern.ReflectliteType.typeOf Tryz.func155 (by kernel_rfl) (by kernel_rfl) (by kernel_rfl) (by kernel_rfl); have tT := eiTypeOf; have cT := eiCall; have mR := eiMethod; have heq := run_eql_iface_ptr_same (P := Tryz.prog) w a Tryz.underlying50 Tryz.underlying466 hi hcmp hj
 go_enter Tryz.func111, Tryz.ntmps111
 go_wp2
 refine wp_loop_rounds 1 ?_; rw [rounds_succ]
 go_wp2
 go_ret; exact ⟨rfl, rfl⟩
end
end Go.Proofs.YtkklidpnkofipaaGreatDoor
