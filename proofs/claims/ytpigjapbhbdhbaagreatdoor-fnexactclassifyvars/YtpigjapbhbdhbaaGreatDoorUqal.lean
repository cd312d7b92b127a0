/- Texts of KeyP, FunK, RegA, IbM. Own work of the verifier. -/
import Derived.Maps.OwnSet
import Derived.Maps.OwnOps
import Derived.Maps.RangeWalk
import Derived.DeepKeys4
import Derived.Test.YtpigjapbhbdhbaaGreatDoorUqaa
import Derived.Orders
import Derived.Shelf.Abstract
namespace Go.Proofs.YtpigjapbhbdhbaaGreatDoor
open Go Go.RowKit Go.Maps
set_option linter.unusedVariables false
theorem keyPair (P : Program) (k s i : TypeId) (F : Array Field) (f0 f1 : Field) (hF : F = #[f0, f1]) (hu : P.underlying k = some (.struct F)) (t0 : f0.type = s) (o0 : f0.offset = 0) (t1 : f1.type = i) (o1 : f1.offset = 1) (n0 : (f0.name != "_") = true) (n1 : (f1.name != "_") = true)
    (hs : P.underlying s = some .string) (hi : P.underlying i = some (.int .i64)) (ck : P.cellsOf k = 2) (cs : P.cellsOf s = 1) (ci : P.cellsOf i = 1) (ht : P.keyType k = true) (n : Nat) (hn : P.types.size = n + 1) (x : ByteArray) (y : Int) (hx : x.size ≤ maxLen) (hw : (Lit.int .i64 y).wf = true) :
    keyOf P k (.agg #[.string x, .int .i64 y]) = some (.string (keyBytes [.string x.data.toList, .int .i64 y])) := by
  subst hF
  have e0 : P.keyLits (n + 1) s [.string x] = some [.string x.data.toList] := by unfold Program.keyLits; rw [hs]; simp [hx]
  have e1 : P.keyLits (n + 1) i [.int .i64 y] = some [.int .i64 y] := by unfold Program.keyLits; rw [hi]; simp [hw]
  have e2 : P.keyLits (P.types.size + 1) k [.string x, .int .i64 y] = some [.string x.data.toList, .int .i64 y] := by
    rw [hn]
    unfold Program.keyLits
    rw [hu]
    simp [ck, n0, n1, t0, t1, o0, o1, cs, ci, e0, e1]
  have e3 : (Value.agg #[.string x, .int .i64 y]).formed P k = true := by simp [Value.formed, hu, ck]
  unfold keyOf
  rw [hu]
  simp only [ht, e3, Bool.and_self, if_true]
  have e4 : (Value.agg #[.string x, .int .i64 y]).cells.toList = [.string x, .int .i64 y] := by simp [Value.cells]
  rw [e4, e2]
  rfl
end Go.Proofs.YtpigjapbhbdhbaaGreatDoor

namespace Go.Proofs.YtpigjapbhbdhbaaGreatDoor
open Go Go.RowKit Go.Maps
set_option linter.unusedVariables false
abbrev Fun := ByteArray × Int
theorem laidFun : laidOutB Tryz.prog = true := by kernel_rfl
theorem rowFun : (67 : TypeId) < Tryz.prog.types.size := of_decide_eq_true (by kernel_rfl)
theorem keyAtFun : Tryz.prog.keyTypeAt 3 67 = true := by kernel_rfl
set_option maxRecDepth 100000 in
theorem lawFunK : WideMaps.KeyLaw Tryz.prog 67 := deep_law_laid laidFun (m := 3) (by decide) rowFun keyAtFun (by kernel_rfl)
theorem lawFun : Keyed Tryz.prog 67 := Keyed.of_law lawFunK
theorem typFun : Tryz.prog.keyType 67 = true := by kernel_rfl
theorem cellsFun : Tryz.prog.cellsOf 67 = 2 := by kernel_rfl
theorem cellsStr : Tryz.prog.cellsOf 9 = 1 := by kernel_rfl
theorem cellsIn : Tryz.prog.cellsOf 3 = 1 := by kernel_rfl
def fk (f : Fun) : Lit := .string (keyBytes [.string f.1.data.toList, .int .i64 f.2])
theorem nTypes : ∃ n, Tryz.prog.types.size = n + 1 := by
  have h : 67 < Tryz.prog.types.size := rowFun
  generalize Tryz.prog.types.size = m at h
  exact ⟨m - 1, by omega⟩
end Go.Proofs.YtpigjapbhbdhbaaGreatDoor

namespace Go.Proofs.YtpigjapbhbdhbaaGreatDoor
open Go Go.RowKit Go.Maps Go.Shelf
set_option linter.unusedVariables false
set_option linter.unusedSimpArgs false
def unl (L : Array Bool) : Nat := (L.toList.filter (fun b => !b)).length
theorem unl_list : ∀ (l : List Bool) (i : Nat), l[i]? = some false → ((l.set i true).filter (fun b => !b)).length + 1 = (l.filter (fun b => !b)).length
  | [], i, h => by simp at h
  | b :: r, 0, h => by
    simp only [List.getElem?_cons_zero, Option.some.injEq] at h
    subst h
    simp
  | b :: r, i + 1, h => by
    have := unl_list r i (by simpa using h)
    cases b <;> simp [List.set_cons_succ, List.filter_cons] <;> omega
theorem getD_list {L : Array Bool} {i : Nat} (h : L.getD i true = false) : L.toList[i]? = some false := by
  simp only [Array.getD_eq_getD_getElem?] at h
  rw [Array.getElem?_toList]
  cases he : L[i]? with
  | none => rw [he] at h; cases h
  | some b => rw [he] at h; simp at h; rw [h]
theorem unl_set {L : Array Bool} {i : Nat} (h : L.getD i true = false) : unl (L.setIfInBounds i true) + 1 = unl L := by
  unfold unl
  rw [Array.toList_setIfInBounds]
  exact unl_list _ _ (getD_list h)
theorem unl_zero {L : Array Bool} (h : unl L = 0) (i : Nat) : L.getD i true ≠ false := fun e => by
  have := unl_set e
  omega
section
variable {P : Program} {ops : Array Oper} {Q : Exit → Act → World → Prop} {md : Region.Mode}
theorem wpAny_inv (I : Array Bool → Act → World → Prop) (hS : ∀ L a w, I L a w → ∀ i ∈ Region.ready md ops L, wpOp P ops Q i (fun a' w' => I (L.setIfInBounds i true) a' w') a w)
    (hE : ∀ L a w, I L a w → Region.ready md ops L = [] → Q .normal a w) : ∀ (fuel : Nat) (L : Array Bool) (a : Act) (w : World), I L a w → unl L ≤ fuel → wpAny P md ops Q fuel L a w
  | 0, L, a, w, h, hu => by
    have hr : Region.ready md ops L = [] := by
      cases hh : Region.ready md ops L with
      | nil => rfl
      | cons i r =>
        have : i ∈ Region.ready md ops L := by rw [hh]; simp
        exact absurd (mem_ready.1 this).1 (unl_zero (by omega) i)
    exact ⟨hr, hE L a w h hr⟩
  | fuel + 1, L, a, w, h, hu => by
    refine ⟨fun hr => hE L a w h hr, fun i hi => ?_⟩
    have h1 := unl_set (mem_ready.1 hi).1
    exact wpOp_mono (fun a' w' h' => wpAny_inv I hS hE fuel _ a' w' h' (by omega)) (hS L a w h i hi)
theorem op_value {i : Nat} {o : Oper} {a : Act} {w w' : World} {v : Value} {K : Act → World → Prop} (hi : ops[i]? = some o) (hg : o.guard = none) (hr : (execOp a.eval o).run P w = .ok (.value v) w') (h : K (a.put o.dst v) w') : wpOp P ops Q i K a w := by
  unfold wpOp
  simp only [hi, Region.wanted, hg, if_true, Oper.wp, hr, Oper.upon]
  exact .inl h
theorem op_skip {i : Nat} {o : Oper} {a : Act} {w w' : World} {K : Act → World → Prop} (hi : ops[i]? = some o) (hg : o.guard = none) (hr : (execOp a.eval o).run P w = .ok .skip w') (h : K (a.put o.dst undef) w') : wpOp P ops Q i K a w := by
  unfold wpOp
  simp only [hi, Region.wanted, hg, if_true, Oper.wp, hr, Oper.upon]
  exact .inl h
end
theorem put_other {a : Act} {d p : Nat} {v : Value} (h : d ≠ p) : (a.put (some d) v).tmps[p]? = a.tmps[p]? := by simp [Act.put, Array.getElem?_setIfInBounds_ne h]
theorem put_same {a : Act} {d : Nat} {v : Value} (h : d < a.tmps.size) : (a.put (some d) v).tmps[d]? = some v := by simp [Act.put, h]
theorem put_size {a : Act} {d : Option Nat} {v : Value} : (a.put d v).tmps.size = a.tmps.size := by cases d <;> simp [Act.put]
theorem put_defs {a : Act} {d : Option Nat} {v : Value} : (a.put d v).defers = a.defers := by cases d <;> rfl
theorem set_at {L : Array Bool} {i p : Nat} (h : (L.setIfInBounds i true).getD p false = true) (hne : i ≠ p) : L.getD p false = true := by rwa [getD_set_ne false hne] at h
theorem dep_of {o : Oper} {i : Nat} {L : Array Bool} (h : (o.after.toList.any fun e => (e.on == i) && Region.binds .any e) = true) (hr : ∀ e ∈ o.after, Region.binds .any e = true → L.getD e.on false = true) : L.getD i false = true := by
  obtain ⟨e, he, h2⟩ := List.any_eq_true.1 h
  simp only [Bool.and_eq_true, beq_iff_eq] at h2
  rw [← h2.1]
  exact hr e (by simpa using he) h2.2
theorem unl_le (L : Array Bool) : unl L ≤ L.size := by
  unfold unl
  have := List.length_filter_le (fun b => !b) L.toList
  simpa using this
theorem eval_tmp {a : Act} {p : Nat} {v : Value} (h : a.tmps[p]? = some v) : a.eval (.tmp p) = v := by simp [Act.eval, h]
theorem getD_false {L : Array Bool} {i : Nat} (h : L.getD i true = false) : L.getD i false = false := by
  simp only [Array.getD_eq_getD_getElem?] at h ⊢
  cases he : L[i]? with
  | none => rfl
  | some b => rw [he] at h; exact h
theorem set_self {L : Array Bool} {i : Nat} (h : i < L.size) : (L.setIfInBounds i true).getD i false = true := by simp [h]
end Go.Proofs.YtpigjapbhbdhbaaGreatDoor

namespace Go.Proofs.YtpigjapbhbdhbaaGreatDoor
open Go Go.RowKit Go.Maps
set_option linter.unusedVariables false
def okN (f : Fun) : Prop := f.1.size ≤ 2000000 ∧ (Lit.int .i64 f.2).wf = true
theorem keyFunN (f : Fun) (h : okN f) : keyOf Tryz.prog 67 (.agg #[.string f.1, .int .i64 f.2]) = some (fk f) := by
  obtain ⟨n, hn⟩ := nTypes
  have hx : f.1.size ≤ maxLen := by have := h.1; unfold maxLen; omega
  exact keyPair Tryz.prog 67 9 3 _ _ _ rfl Tryz.underlying67 rfl rfl rfl rfl (by decide) (by decide) Tryz.underlying9 Tryz.underlying3 cellsFun cellsStr cellsIn typFun n hn f.1 f.2 hx h.2
theorem fk_injN {f g : Fun} (hf : okN f) (hg : okN g) (h : fk f = fk g) : f = g := by
  have h1 := keyFunN f hf
  have h2 := keyFunN g hg
  rw [← h] at h2
  have := lawFun.inj h1 h2
  obtain ⟨f1, f2⟩ := f
  obtain ⟨g1, g2⟩ := g
  simpa using this
def heldN (v : Value) : Option (DataW Value × List MemPlace) := some (.held v, [])
def BuIn (w : World) (b N : Nat) (T : Fun → Option Nat) : Prop := ∃ D : DataW Value, w.ownsMap Tryz.prog 67 heldN b N D ∧
  ∀ f, okN f → match T f with
    | none => has D (fk f) = false ∧ ∀ z, D.atKey (fk f) z = z
    | some K => has D (fk f) = true ∧ ∀ z, D.atKey (fk f) z = .held (.func (.func K) #[] #[])
theorem BuIn.lt {w : World} {b N : Nat} {T : Fun → Option Nat} (h : BuIn w b N T) : b < w.heap.size := by obtain ⟨D, h, _⟩ := h; exact h.lt
theorem BuIn.of {w w' : World} {b N : Nat} {T : Fun → Option Nat} (h : BuIn w b N T) (hb : w'.heap[b]? = w.heap[b]?) : BuIn w' b N T := by
  obtain ⟨D, ⟨es, clock, h1, r⟩, h2⟩ := h
  exact ⟨D, ⟨es, clock, hb.trans h1, r⟩, h2⟩
theorem BuIn.below {w w' : World} {b N : Nat} {T : Fun → Option Nat} (h : BuIn w b N T) (hb : Below w.heap.size w w') : BuIn w' b N T := h.of (hb.block _ h.lt)
theorem BuIn.made (w : World) : BuIn (w.alloc (.map #[] 0)) w.heap.size 0 (fun _ => none) := ⟨_, World.ownsMap_made _ _ _ _, fun f _ => ⟨rfl, fun z => rfl⟩⟩
theorem zeroBu (w : World) : (zeroValue 206).run Tryz.prog w = .ok .nilFunc w := by kernel_rfl
theorem BuIn.look {w : World} {b N : Nat} {T : Fun → Option Nat} (h : BuIn w b N T) (f : Fun) (hf : okN f) :
    (Instr.lookup 51 (.map (some b)) (.agg #[.string f.1, .int .i64 f.2]) true).run Tryz.prog w = .ok (.tuple #[(match T f with | none => .nilFunc | some K => .func (.func K) #[] #[]), .bool (T f).isSome]) w := by
  obtain ⟨D, hown, hT⟩ := h
  obtain ⟨v, ps, hrun, hv⟩ := hown.look_ok lawFun Tryz.underlying51 (zeroBu w) (zd := .held .nilFunc) (zp := []) rfl (keyFunN f hf)
  have h1 := hT f hf
  simp only [heldN, Option.some.injEq, Prod.mk.injEq] at hv
  have hv := hv.1
  cases e : T f with
  | none =>
    rw [e] at h1
    rw [h1.2] at hv
    rw [hrun, h1.1]
    cases hv
    rfl
  | some c =>
    rw [e] at h1
    rw [h1.2] at hv
    rw [hrun, h1.1]
    cases hv
    rfl
theorem BuIn.put {w : World} {b N : Nat} {T : Fun → Option Nat} (h : BuIn w b N T) (hN : N ≤ 1000000) (f : Fun) (hf : okN f) (K : Nat) :
    ∃ w', (Instr.mapUpdate 51 (.map (some b)) (.agg #[.string f.1, .int .i64 f.2]) (.func (.func K) #[] #[])).run Tryz.prog w = .ok () w' ∧ BuIn w' b (N + 1) (fun g => if g = f then some K else T g) ∧ w.grownBy w' (some b) := by
  obtain ⟨D, hown, hT⟩ := h
  have hown0 := hown
  obtain ⟨es, clock, hb, _⟩ := hown
  obtain ⟨w', hrun, hown', hg⟩ := hown0.update lawFun Tryz.underlying51 (by unfold maxLen; omega) (keyFunN f hf) (show heldN (.func (.func K) #[] #[]) = some (.held _, []) from rfl)
  have hm := hown0.isMap
  have hkl : WideAt.IsKeyLit (fk f) := trivial
  refine ⟨w', hrun, ⟨_, hown', fun g hgk => ?_⟩, hg⟩
  by_cases e : g = f
  · subst e
    simp only [if_true]
    exact ⟨has_put_same hm hkl _, fun z => atKey_put_same hm hkl _ z⟩
  · simp only [if_neg e]
    have hne : fk g ≠ fk f := fun e' => e (fk_injN hgk hf e')
    have h1 := hT g hgk
    cases hTg : T g with
    | none =>
      rw [hTg] at h1
      exact ⟨by rw [has_put_other hne]; exact h1.1, fun z => by rw [atKey_put_other hne]; exact h1.2 z⟩
    | some c' =>
      rw [hTg] at h1
      exact ⟨by rw [has_put_other hne]; exact h1.1, fun z => by rw [atKey_put_other hne]; exact h1.2 z⟩
end Go.Proofs.YtpigjapbhbdhbaaGreatDoor

