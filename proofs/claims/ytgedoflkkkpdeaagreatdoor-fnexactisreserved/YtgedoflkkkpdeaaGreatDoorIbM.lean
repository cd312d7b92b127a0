/- The map of builtins. Own work of the verifier. -/
import Derived.Test.YtgedoflkkkpdeaaGreatDoorFunK
import Derived.Test.YtgedoflkkkpdeaaGreatDoorRegA
namespace Go.Proofs.YtgedoflkkkpdeaaGreatDoor
open Go Go.RowKit Go.Maps
set_option linter.unusedVariables false

/-- A name and an arity that a key can hold: any number of 64 bits. -/
def okN (f : Fun) : Prop := f.1.size ≤ 2000000 ∧ (Lit.int .i64 f.2).wf = true
theorem keyFunN (f : Fun) (h : okN f) : keyOf Tryz.prog 37 (.agg #[.string f.1, .int .i64 f.2]) = some (fk f) := by
  obtain ⟨n, hn⟩ := nTypes
  have hx : f.1.size ≤ maxLen := by have := h.1; unfold maxLen; omega
  exact keyPair Tryz.prog 37 9 3 _ _ _ rfl Tryz.underlying37 rfl rfl rfl rfl (by decide) (by decide) Tryz.underlying9 Tryz.underlying3 cellsFun cellsStr cellsIn typFun n hn f.1 f.2 hx h.2
theorem fk_injN {f g : Fun} (hf : okN f) (hg : okN g) (h : fk f = fk g) : f = g := by
  have h1 := keyFunN f hf
  have h2 := keyFunN g hg
  rw [← h] at h2
  have := lawFun.inj h1 h2
  obtain ⟨f1, f2⟩ := f
  obtain ⟨g1, g2⟩ := g
  simpa using this
/-- How whatever value reads as an element. -/
def heldN (v : Value) : Option (DataW Value × List MemPlace) := some (.held v, [])
/-- Block b is a map of at most N entries, with these functions. -/
def BuIn (w : World) (b N : Nat) (T : Fun → Option Nat) : Prop := ∃ D : DataW Value, w.ownsMap Tryz.prog 37 heldN b N D ∧
  ∀ f, okN f → match T f with
    | none => has D (fk f) = false ∧ ∀ z, D.atKey (fk f) z = z
    | some K => has D (fk f) = true ∧ ∀ z, D.atKey (fk f) z = .held (.func (.func K) #[] #[])
theorem BuIn.lt {w : World} {b N : Nat} {T : Fun → Option Nat} (h : BuIn w b N T) : b < w.heap.size := by obtain ⟨D, h, _⟩ := h; exact h.lt
theorem BuIn.of {w w' : World} {b N : Nat} {T : Fun → Option Nat} (h : BuIn w b N T) (hb : w'.heap[b]? = w.heap[b]?) : BuIn w' b N T := by
  obtain ⟨D, ⟨es, clock, h1, r⟩, h2⟩ := h
  exact ⟨D, ⟨es, clock, hb.trans h1, r⟩, h2⟩
theorem BuIn.below {w w' : World} {b N : Nat} {T : Fun → Option Nat} (h : BuIn w b N T) (hb : Below w.heap.size w w') : BuIn w' b N T := h.of (hb.block _ h.lt)
theorem BuIn.made (w : World) : BuIn (w.alloc (.map #[] 0)) w.heap.size 0 (fun _ => none) := ⟨_, World.ownsMap_made _ _ _ _, fun f _ => ⟨rfl, fun z => rfl⟩⟩
theorem zeroBu (w : World) : (zeroValue 31).run Tryz.prog w = .ok .nilFunc w := by kernel_rfl
/-- A look-up. -/
theorem BuIn.look {w : World} {b N : Nat} {T : Fun → Option Nat} (h : BuIn w b N T) (f : Fun) (hf : okN f) :
    (Instr.lookup 34 (.map (some b)) (.agg #[.string f.1, .int .i64 f.2]) true).run Tryz.prog w = .ok (.tuple #[(match T f with | none => .nilFunc | some K => .func (.func K) #[] #[]), .bool (T f).isSome]) w := by
  obtain ⟨D, hown, hT⟩ := h
  obtain ⟨v, ps, hrun, hv⟩ := hown.look_ok lawFun Tryz.underlying34 (zeroBu w) (zd := .held .nilFunc) (zp := []) rfl (keyFunN f hf)
  have h1 := hT f hf
  simp only [heldN, Option.some.injEq, Prod.mk.injEq] at hv
  have hv := hv.1
  cases e : T f with
  | none =>
    rw [e] at h1
    rw [h1.2] at hv
    rw [hrun, h1.1]
    cases hv
    rfl
  | some c =>
    rw [e] at h1
    rw [h1.2] at hv
    rw [hrun, h1.1]
    cases hv
    rfl
/-- A store. -/
theorem BuIn.put {w : World} {b N : Nat} {T : Fun → Option Nat} (h : BuIn w b N T) (hN : N ≤ 1000000) (f : Fun) (hf : okN f) (K : Nat) :
    ∃ w', (Instr.mapUpdate 34 (.map (some b)) (.agg #[.string f.1, .int .i64 f.2]) (.func (.func K) #[] #[])).run Tryz.prog w = .ok () w' ∧ BuIn w' b (N + 1) (fun g => if g = f then some K else T g) ∧ w.grownBy w' (some b) := by
  obtain ⟨D, hown, hT⟩ := h
  have hown0 := hown
  obtain ⟨es, clock, hb, _⟩ := hown
  obtain ⟨w', hrun, hown', hg⟩ := hown0.update lawFun Tryz.underlying34 (by unfold maxLen; omega) (keyFunN f hf) (show heldN (.func (.func K) #[] #[]) = some (.held _, []) from rfl)
  have hm := hown0.isMap
  have hkl : WideAt.IsKeyLit (fk f) := trivial
  refine ⟨w', hrun, ⟨_, hown', fun g hgk => ?_⟩, hg⟩
  by_cases e : g = f
  · subst e
    simp only [if_true]
    exact ⟨has_put_same hm hkl _, fun z => atKey_put_same hm hkl _ z⟩
  · simp only [if_neg e]
    have hne : fk g ≠ fk f := fun e' => e (fk_injN hgk hf e')
    have h1 := hT g hgk
    cases hTg : T g with
    | none =>
      rw [hTg] at h1
      exact ⟨by rw [has_put_other hne]; exact h1.1, fun z => by rw [atKey_put_other hne]; exact h1.2 z⟩
    | some c' =>
      rw [hTg] at h1
      exact ⟨by rw [has_put_other hne]; exact h1.1, fun z => by rw [atKey_put_other hne]; exact h1.2 z⟩

end Go.Proofs.YtgedoflkkkpdeaaGreatDoor
