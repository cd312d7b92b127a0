/- Texts of RegK, RegK2, RegK3. Own work of the verifier. -/
import Derived.Deep.RegionHeld3
namespace Go.Proofs.Ytfnmoaiejpkocaa
open Go
section
variable {P : Program} {ops : Array Oper} {Q : Exit → Act → World → Prop} {md : Region.Mode} {S : World → Prop}

theorem hTake {i : Nat} {v : Value} {fuel : Nat} {listed : Array Bool} {a : Act} {w : World} (d : Option Tmp) (hd : (ops[i]?).map (·.dst) = some d)
    (hs : Region.noSelect ops = true) (hf : Region.free md ops listed i = true) (hr : (Region.ready md ops listed).contains i = true) (hw : (ops[i]?).map (fun o => Region.wanted o (yielded ops a.tmps)) = some true)
    (hQ : ∀ c a w, Q (.panic c) (a.put d v) w → Q (.panic c) a w) (hrun : ∀ o, ops[i]? = some o → ∀ w, S w → (execOp a.eval o).run P w = .ok (.value v) w) (hS : S w)
    (h : wpAnyH P md ops Q S fuel (listed.setIfInBounds i true) (a.put d v) w) : wpAnyH P md ops Q S (fuel + 1) listed a w := by
  cases hi : ops[i]? with
  | none => simp [hi] at hd
  | some o =>
    have hd' : o.dst = d := by simpa [hi] using hd
    have hw' : Region.wanted o (yielded ops a.tmps) = true := by simpa [hi] using hw
    subst hd'
    exact wpAnyH_take hi hs hf hr hQ (.inl ⟨hw', hrun o hi⟩) hS h
theorem hSkip {i : Nat} {fuel : Nat} {listed : Array Bool} {a : Act} {w : World} (d : Option Tmp) (hd : (ops[i]?).map (·.dst) = some d)
    (hs : Region.noSelect ops = true) (hf : Region.free md ops listed i = true) (hr : (Region.ready md ops listed).contains i = true) (hw : (ops[i]?).map (fun o => Region.wanted o (yielded ops a.tmps)) = some false)
    (hQ : ∀ c a w, Q (.panic c) (a.put d undef) w → Q (.panic c) a w) (hS : S w)
    (h : wpAnyH P md ops Q S fuel (listed.setIfInBounds i true) (a.put d undef) w) : wpAnyH P md ops Q S (fuel + 1) listed a w := by
  cases hi : ops[i]? with
  | none => simp [hi] at hd
  | some o =>
    have hd' : o.dst = d := by simpa [hi] using hd
    have hw' : Region.wanted o (yielded ops a.tmps) = false := by simpa [hi] using hw
    subst hd'
    exact wpAnyH_take hi hs hf hr hQ (.inr ⟨hw', rfl⟩) hS h
theorem hCall {i : Nat} {f : FuncId} {args : Array Value} {v : Value} {T : World → Prop} {fuel : Nat} {listed : Array Bool} {a : Act} {w : World} (d : Option Tmp) (hd : (ops[i]?).map (·.dst) = some d)
    (hr : Region.ready md ops listed = [i]) (hw : (ops[i]?).map (fun o => Region.wanted o (yielded ops a.tmps)) = some true)
    (hrun : ∀ o, ops[i]? = some o → (execOp a.eval o).run P w = .ok (.enter f args) w) (hC : Calls P f args w fun e w' => e = .returned v ∧ T w')
    (hK : ∀ w', T w' → S w' ∧ wpAnyH P md ops Q S fuel (listed.setIfInBounds i true) (a.put d v) w') : wpAnyH P md ops Q S (fuel + 1) listed a w := by
  refine wpAnyH_all hr (by simp) ?_
  intro j hj
  obtain rfl : j = i := by simpa using hj
  cases hi : ops[j]? with
  | none => simp [hi] at hd
  | some o =>
    have hd' : o.dst = d := by simpa [hi] using hd
    have hw' : Region.wanted o (yielded ops a.tmps) = true := by simpa [hi] using hw
    subst hd'
    unfold wpOp
    simp only [hi, hw', if_true, Oper.wp, hrun o hi, Oper.upon]
    refine .inl (hC.mono fun e w'' he => ?_)
    obtain ⟨rfl, ht⟩ := he
    exact hK _ ht
end
end Go.Proofs.Ytfnmoaiejpkocaa

namespace Go.Proofs.Ytfnmoaiejpkocaa
open Go
theorem hStep {P : Program} {ops : Array Oper} {Q : Exit → Act → World → Prop} {md : Region.Mode} {S : World → Prop} {i : Nat} {v : Value} {fuel : Nat} {listed : Array Bool} {a : Act} {w w' : World} (d : Option Tmp) (hd : (ops[i]?).map (·.dst) = some d)
    (hr : Region.ready md ops listed = [i]) (hw : (ops[i]?).map (fun o => Region.wanted o (yielded ops a.tmps)) = some true)
    (hrun : ∀ o, ops[i]? = some o → (execOp a.eval o).run P w = .ok (.value v) w') (hS : S w') (h : wpAnyH P md ops Q S fuel (listed.setIfInBounds i true) (a.put d v) w') : wpAnyH P md ops Q S (fuel + 1) listed a w := by
  refine wpAnyH_all hr (by simp) ?_
  intro j hj
  obtain rfl : j = i := by simpa using hj
  cases hi : ops[j]? with
  | none => simp [hi] at hd
  | some o =>
    have hd' : o.dst = d := by simpa [hi] using hd
    have hw' : Region.wanted o (yielded ops a.tmps) = true := by simpa [hi] using hw
    subst hd'
    unfold wpOp
    simp only [hi, hw', if_true, Oper.wp, hrun o hi, Oper.upon]
    exact .inl ⟨hS, h⟩
theorem hCallE {P : Program} {ops : Array Oper} {Q : Exit → Act → World → Prop} {md : Region.Mode} {S : World → Prop} {i : Nat} {f : FuncId} {args : Array Value} {R : Ending → World → Prop} {fuel : Nat} {listed : Array Bool} {a : Act} {w : World} (d : Option Tmp) (hd : (ops[i]?).map (·.dst) = some d)
    (hr : Region.ready md ops listed = [i]) (hw : (ops[i]?).map (fun o => Region.wanted o (yielded ops a.tmps)) = some true)
    (hrun : ∀ o, ops[i]? = some o → (execOp a.eval o).run P w = .ok (.enter f args) w) (hC : Calls P f args w R) (hK : ∀ u w', R (.returned u) w' → S w' ∧ wpAnyH P md ops Q S fuel (listed.setIfInBounds i true) (a.put d u) w')
    (hP : ∀ ch w', ¬ R (.panicked ch) w') (hO : ∀ w', ¬ R .outgrown w') : wpAnyH P md ops Q S (fuel + 1) listed a w := by
  refine wpAnyH_all hr (by simp) ?_
  intro j hj
  obtain rfl : j = i := by simpa using hj
  cases hi : ops[j]? with
  | none => simp [hi] at hd
  | some o =>
    have hd' : o.dst = d := by simpa [hi] using hd
    have hw' : Region.wanted o (yielded ops a.tmps) = true := by simpa [hi] using hw
    subst hd'
    unfold wpOp
    simp only [hi, hw', if_true, Oper.wp, hrun o hi, Oper.upon]
    refine .inl (hC.mono fun e w'' he => ?_)
    cases e with
    | returned u => exact hK u w'' he
    | panicked ch => exact absurd he (hP ch w'')
    | outgrown => exact absurd he (hO w'')
end Go.Proofs.Ytfnmoaiejpkocaa

namespace Go.Proofs.Ytfnmoaiejpkocaa
open Go
theorem hStore {P : Program} {ops : Array Oper} {Q : Exit → Act → World → Prop} {md : Region.Mode} {S : World → Prop} {i : Nat} {fuel : Nat} {listed : Array Bool} {a : Act} {w w' : World} (hd : (ops[i]?).map (·.dst) = some none)
    (hr : Region.ready md ops listed = [i]) (hw : (ops[i]?).map (fun o => Region.wanted o (yielded ops a.tmps)) = some true)
    (hrun : ∀ o, ops[i]? = some o → (execOp a.eval o).run P w = .ok .skip w') (hS : S w') (h : wpAnyH P md ops Q S fuel (listed.setIfInBounds i true) a w') : wpAnyH P md ops Q S (fuel + 1) listed a w := by
  refine wpAnyH_all hr (by simp) ?_
  intro j hj
  obtain rfl : j = i := by simpa using hj
  cases hi : ops[j]? with
  | none => simp [hi] at hd
  | some o =>
    have hd' : o.dst = none := by simpa [hi] using hd
    have hw' : Region.wanted o (yielded ops a.tmps) = true := by simpa [hi] using hw
    unfold wpOp
    simp only [hi, hw', if_true, Oper.wp, hrun o hi, Oper.upon]
    exact .inl ⟨hS, by rw [hd']; exact h⟩
end Go.Proofs.Ytfnmoaiejpkocaa

