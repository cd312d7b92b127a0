/- Texts of NbN, RegK, RegK2, NbC. Own work of the verifier. -/
import Derived.Test.YtfgaenggbbgboaaGreatDoorUqap
import Derived.Deep.RegionHeld3
namespace Go.Proofs.YtfgaenggbbgboaaGreatDoor
open Go Go.RowKit
set_option linter.unusedVariables false
abbrev efV (a : Addr) : Value := .iface 446 (.pointer (some a))
def NmOut (w0 w : World) (a : Addr) (G : Option Fo) (e : Ending) (w' : World) : Prop :=
  Below w.heap.size w w' ∧ match G with
    | none => e = .returned (.tuple #[.nilIface, efV a])
    | some G => ∃ v, e = .returned (.tuple #[v, .nilIface]) ∧ FoA (fun b => w0.heap.size ≤ b ∧ b < w.heap.size) w' G [v]
theorem nmOut_none {w0 w w' : World} {a : Addr} {G : Option Fo} (hG : G = none) (hb : Below w.heap.size w w') : NmOut w0 w a G (.returned (.tuple #[.nilIface, efV a])) w' := by
  subst hG
  exact ⟨hb, rfl⟩
theorem nmOut_some {w0 w w' : World} {a : Addr} {G : Option Fo} {F : Fo} {v : Value} (hG : G = some F) (hb : Below w.heap.size w w') (hF : FoA (fun b => w0.heap.size ≤ b ∧ b < w.heap.size) w' F [v]) : NmOut w0 w a G (.returned (.tuple #[v, .nilIface])) w' := by
  subst hG
  exact ⟨hb, v, rfl, hF⟩
theorem sCall : strOfNums nCall = ⟨#[99, 97, 108, 108]⟩ := rfl
theorem sTrue : strOfNums nTrue = ⟨#[116, 114, 117, 101]⟩ := rfl
theorem sNot : strOfNums [92, 43] = ⟨#[92, 43]⟩ := rfl
theorem sThen : strOfNums [45, 62] = ⟨#[45, 62]⟩ := rfl
theorem sComma : strOfNums [44] = ⟨#[44]⟩ := rfl
theorem nbArgs_atom (x : Value) (w : World) : Calls Tryz.prog 76 #[.iface 121 x] w fun e w' => e = .returned (.slice none 0 0) ∧ w' = w := by
  have n1 := nbA_atom_comp
  go_enter Tryz.func76, Tryz.ntmps76
  go_wp2_with fail
  go_ret
  exact ⟨rfl, rfl⟩
theorem nbArgs_comp (b g q : Nat) (w : World) (h : w.cell? ⟨b, 1, none⟩ = some (.slice (some ⟨g, 0, none⟩) q q)) :
    Calls Tryz.prog 76 #[.iface 122 (.pointer (some ⟨b, 0, none⟩))] w fun e w' => e = .returned (.slice (some ⟨g, 0, none⟩) q q) ∧ w' = w := by
  have n1 := nbA_comp_comp
  go_enter Tryz.func76, Tryz.ntmps76
  go_wp2_with fail
  go_ret
  exact ⟨rfl, rfl⟩
set_option maxRecDepth 100000 in
theorem normal_var (n : Int) (a : Addr) (w0 w : World) (hw : w0.heap.size ≤ w.heap.size) : Calls Tryz.prog 79 #[.iface 119 (.int .i64 n)] w (NmOut w0 w a (normT (0, n, []) .nil)) := by
  have HN : Hid (normT (0, n, []) .nil = some (.node (3, 1, nCall) (.node (0, n, []) .nil .nil) .nil)) := rfl
  have HW : Hid (w0.heap.size ≤ w.heap.size) := hw
  have HFO := fun W => nbFO_var (.int .i64 n) W
  have HIV := fun W => nbIsVar_var (.int .i64 n) W
  clear hw
  go_enter Tryz.func79, Tryz.ntmps79
  go_wp2_with fail
  refine (HFO _).mono ?_
  rintro e w1 ⟨rfl, hb1⟩
  have HB1 : Hid (Below w.heap.size w w1) := hb1
  clear hb1 HFO
  go_wp2_with fail
  refine (HIV _).mono ?_
  rintro e w2 ⟨rfl, rfl⟩
  go_wp2_with fail
  refine (callableN_any _ _ 1 _ (by decide) (by decide)).mono ?_
  rintro e w3 ⟨rfl, rfl⟩
  go_wp2_with fail
  go_ret2
  have hs := HB1.out.size
  have hb2 := HB1.out.alloc hs (.cells #[.string ⟨#[]⟩, .int .i64 0] 52)
  refine nmOut_some HN.out ((hb2.alloc hb2.size _).alloc (hb2.alloc hb2.size _).size _) ?_
  have h := comp_row (A := fun b => w0.heap.size ≤ b ∧ b < w.heap.size) (W := w1.alloc (.cells #[.string ⟨#[]⟩, .int .i64 0] 52)) (n := 1) (nm := nCall) (k := .node (0, n, []) .nil .nil) (vs := [.iface 119 (.int .i64 n)]) (fun b hb h => by simp at hb; omega) ⟨_, [], rfl, .inl ⟨rfl, rfl⟩, rfl⟩
  rw [sCall] at h
  simpa using h
set_option maxRecDepth 100000 in
theorem normal_num (n : Int) (a : Addr) (w0 w : World) (hg : w.cell? ⟨1, 0, none⟩ = some (efV a)) : Calls Tryz.prog 79 #[.iface 120 (.int .i64 n)] w (NmOut w0 w a (normT (1, n, []) .nil)) := by
  have HN : Hid (normT (1, n, []) .nil = none) := rfl
  have HFO := fun W => nbFO_num (.int .i64 n) W
  have HIV := fun W => nbIsVar_num (.int .i64 n) W
  have HG : Hid (w.cell? ⟨1, 0, none⟩ = some (efV a)) := hg
  clear hg
  go_enter Tryz.func79, Tryz.ntmps79
  go_wp2_with fail
  refine (HFO _).mono ?_
  rintro e w1 ⟨rfl, hb1⟩
  have HB1 : Hid (Below w.heap.size w w1) := hb1
  have hg1 := (hb1.cell (World.block_lt_of_cell? _ _ HG.out)).trans HG.out
  have hg2 := fun o => Lib.cell?_alloc_marked (W := w1) o hg1
  clear hb1 HFO
  go_wp2_with fail
  refine (HIV _).mono ?_
  rintro e w2 ⟨rfl, rfl⟩
  go_wp2_with fail
  go_region
  all_goals go_wp2_with fail
  all_goals go_ret2
  all_goals exact nmOut_none HN.out ((HB1.out.alloc HB1.out.size _).drew)
set_option maxRecDepth 100000 in
theorem normal_atom (s : List Int) (hby : Byte s) (hl : s.length ≤ 1000) (a : Addr) (w0 w : World) (hg : w.cell? ⟨1, 0, none⟩ = some (efV a)) : Calls Tryz.prog 79 #[.iface 121 (.string (strOfNums s))] w (NmOut w0 w a (normT (2, 0, s) .nil)) := by
  have HN : Hid (normT (2, 0, s) .nil = if dolL s = true then none else some (.node (2, 0, s) .nil .nil)) := by
    show _ = _
    unfold normT normH
    rw [if_neg (show ¬ (2 : Int) = 0 by decide)]
    by_cases h : dolL s = true
    · rw [if_pos (.inr h), if_pos h]
    · rw [if_neg (by simp [h]), if_neg h, if_neg (by simp [conC])]
  have HT : Hid (∀ W, FoA (fun b => w0.heap.size ≤ b ∧ b < w.heap.size) W (.node (2, 0, s) .nil .nil) [.iface 121 (.string (strOfNums s))]) := fun W => foA_atom
  have hsz : (strOfNums s).size ≤ 1000000000 := by rw [size_str]; omega
  have HNW := fun W => isNew_any (strOfNums s) 0 W hsz
  have HCN := fun W => isConstruct_any (strOfNums s) 0 W
  have HFO := fun W => nbFO_atom (strOfNums s) W
  have HIV := fun W => nbIsVar_atom (.string (strOfNums s)) W
  have HAR := fun W => nbArgs_atom (.string (strOfNums s)) W
  rw [dol_str hby] at HNW
  rw [con_str0 hby] at HCN
  have HG : Hid (w.cell? ⟨1, 0, none⟩ = some (efV a)) := hg
  have HS : Hid (s = [33] → ((strOfNums s).toList == [111, 110, 99, 101]) = false ∧ ((strOfNums s).toList == [102, 111, 114, 97, 108, 108]) = false) := fun h => by rw [str_is hby [111, 110, 99, 101] nOnce rfl, str_is hby [102, 111, 114, 97, 108, 108] nAll rfl, h]; exact ⟨rfl, rfl⟩
  obtain ⟨str, es⟩ : ∃ str, str = strOfNums s := ⟨_, rfl⟩
  rw [← es] at HNW HCN HFO HIV HAR HT HS ⊢
  obtain ⟨i0, hi, hz0, hz1, hz2⟩ := info_parts infoTerm
  have hmx : 0 ≤ maxLen := Nat.zero_le _
  clear hg hby hl es hsz
  cases hd : dolL s with
  | true =>
    rw [hd] at HNW HN
    clear hd HCN HAR HS
    go_enter Tryz.func79, Tryz.ntmps79
    go_wp2_with fail
    refine (HFO _).mono ?_
    rintro e w1 ⟨rfl, hb1⟩
    have HB1 : Hid (Below w.heap.size w w1) := hb1
    clear hb1 HFO
    go_wp2_with fail
    refine (HIV _).mono ?_
    rintro e w2 ⟨rfl, rfl⟩
    go_wp2_with fail
    refine (HNW _).mono ?_
    rintro e w3 ⟨rfl, hb3⟩
    have HB3 : Hid (Below w.heap.size w w3) := (HB1.out.alloc HB1.out.size _).trans (hb3.mono (by have := HB1.out.size; simp; omega))
    have hg1 := (HB3.out.cell (World.block_lt_of_cell? _ _ HG.out)).trans HG.out
    clear hb3
    go_wp2_with fail
    go_region
    all_goals go_wp2_with fail
    all_goals go_ret2
    all_goals exact nmOut_none HN.out HB3.out.drew
  | false =>
    rw [hd] at HNW HN
    have HN2 : Hid (normT (2, 0, s) .nil = some (.node (2, 0, s) .nil .nil)) := HN.out
    clear hd HN
    cases hc : (s == [33]) with
    | false =>
      rw [hc] at HCN
      clear hc HS HAR
      go_enter Tryz.func79, Tryz.ntmps79
      go_wp2_with fail
      refine (HFO _).mono ?_
      rintro e w1 ⟨rfl, hb1⟩
      have HB1 : Hid (Below w.heap.size w w1) := hb1
      clear hb1 HFO
      go_wp2_with fail
      refine (HIV _).mono ?_
      rintro e w2 ⟨rfl, rfl⟩
      go_wp2_with fail
      refine (HNW _).mono ?_
      rintro e w3 ⟨rfl, hb3⟩
      have HB3 : Hid (Below w.heap.size w w3) := (HB1.out.alloc HB1.out.size _).trans (hb3.mono (by have := HB1.out.size; simp; omega))
      have k := hb3.block w1.heap.size (by simp)
      rw [heap_alloc_new] at k
      obtain ⟨c0, c1, _, _⟩ := two_cells k
      clear hb3 k
      go_wp2_with fail
      refine (HCN _).mono ?_
      rintro e w4 ⟨rfl, hb4⟩
      have HB4 : Hid (Below w.heap.size w w4) := Below.on HB3.out hb4
      clear hb4
      go_wp2_with fail
      go_ret2
      exact nmOut_some HN2.out HB4.out (HT.out _)
    | true =>
      rw [hc] at HCN
      obtain ⟨hs1, hs2⟩ := HS.out (by simpa using hc)
      clear hc HS
      go_enter Tryz.func79, Tryz.ntmps79
      go_wp2_with fail
      refine (HFO _).mono ?_
      rintro e w1 ⟨rfl, hb1⟩
      have HB1 : Hid (Below w.heap.size w w1) := hb1
      clear hb1 HFO
      go_wp2_with fail
      refine (HIV _).mono ?_
      rintro e w2 ⟨rfl, rfl⟩
      go_wp2_with fail
      refine (HNW _).mono ?_
      rintro e w3 ⟨rfl, hb3⟩
      have HB3 : Hid (Below w.heap.size w w3) := (HB1.out.alloc HB1.out.size _).trans (hb3.mono (by have := HB1.out.size; simp; omega))
      have k := hb3.block w1.heap.size (by simp)
      rw [heap_alloc_new] at k
      have HK3 : Hid (w3.heap[w1.heap.size]? = some (.cells #[.string str, .int .i64 0] 52)) := k
      have HL3 : Hid (w1.heap.size < w3.heap.size) := by have := hb3.size; simp at this; show _ < _; omega
      obtain ⟨c0, c1, _, _⟩ := two_cells k
      clear hb3 k
      go_wp2_with fail
      refine (HCN _).mono ?_
      rintro e w4 ⟨rfl, hb4⟩
      have HB4 : Hid (Below w.heap.size w w4) := Below.on HB3.out hb4
      have HK4 : Hid (w4.heap[w1.heap.size]? = some (.cells #[.string str, .int .i64 0] 52)) := (hb4.block _ HL3.out).trans HK3.out
      have HL4 : Hid (w1.heap.size < w4.heap.size) := Nat.lt_of_lt_of_le HL3.out hb4.size
      obtain ⟨d0, d1, _, _⟩ := two_cells HK4.out
      clear hb4 c0 c1
      go_wp2_with (at_make; refine wpList_make_full _ rfl _ _ 109 rfl w4.heap.size 59 i0 .nilIface 1 Tryz.underlying109 hi hz0 hz1 _ _ _ _ 0 rfl rfl rfl rfl (by rw [hz2]; omega) hmx (Nat.le_refl _) ?_; intro w5 hown hgrow; have d0' := ((World.cell?_of_block (w := w4) (a := ⟨w1.heap.size, 0, none⟩) (hgrow.block w1.heap.size HL4.out (fun h => by cases h)))).trans d0)
      have HB5 : Hid (Below w.heap.size w w5) := HB4.out.grown hgrow HB4.out.size (fun k h => by cases h)
      clear hown hgrow
      refine (HAR _).mono ?_
      rintro e w6 ⟨rfl, rfl⟩
      go_wp2_with fail
      refine wp_loop_rounds 1 ?_
      rw [rounds_succ]
      go_wp2_with fail
      refine (callable0_any _ _ _ _).mono ?_
      rintro e w7 ⟨rfl, rfl⟩
      go_wp2_with fail
      go_ret2
      exact nmOut_some HN2.out HB5.out (HT.out _)
end Go.Proofs.YtfgaenggbbgboaaGreatDoor

namespace Go.Proofs.YtfgaenggbbgboaaGreatDoor
open Go
section
variable {P : Program} {ops : Array Oper} {Q : Exit → Act → World → Prop} {md : Region.Mode} {S : World → Prop}
theorem hTake {i : Nat} {v : Value} {fuel : Nat} {listed : Array Bool} {a : Act} {w : World} (d : Option Tmp) (hd : (ops[i]?).map (·.dst) = some d)
    (hs : Region.noSelect ops = true) (hf : Region.free md ops listed i = true) (hr : (Region.ready md ops listed).contains i = true) (hw : (ops[i]?).map (fun o => Region.wanted o (yielded ops a.tmps)) = some true)
    (hQ : ∀ c a w, Q (.panic c) (a.put d v) w → Q (.panic c) a w) (hrun : ∀ o, ops[i]? = some o → ∀ w, S w → (execOp a.eval o).run P w = .ok (.value v) w) (hS : S w)
    (h : wpAnyH P md ops Q S fuel (listed.setIfInBounds i true) (a.put d v) w) : wpAnyH P md ops Q S (fuel + 1) listed a w := by
  cases hi : ops[i]? with
  | none => simp [hi] at hd
  | some o =>
    have hd' : o.dst = d := by simpa [hi] using hd
    have hw' : Region.wanted o (yielded ops a.tmps) = true := by simpa [hi] using hw
    subst hd'
    exact wpAnyH_take hi hs hf hr hQ (.inl ⟨hw', hrun o hi⟩) hS h
theorem hSkip {i : Nat} {fuel : Nat} {listed : Array Bool} {a : Act} {w : World} (d : Option Tmp) (hd : (ops[i]?).map (·.dst) = some d)
    (hs : Region.noSelect ops = true) (hf : Region.free md ops listed i = true) (hr : (Region.ready md ops listed).contains i = true) (hw : (ops[i]?).map (fun o => Region.wanted o (yielded ops a.tmps)) = some false)
    (hQ : ∀ c a w, Q (.panic c) (a.put d undef) w → Q (.panic c) a w) (hS : S w)
    (h : wpAnyH P md ops Q S fuel (listed.setIfInBounds i true) (a.put d undef) w) : wpAnyH P md ops Q S (fuel + 1) listed a w := by
  cases hi : ops[i]? with
  | none => simp [hi] at hd
  | some o =>
    have hd' : o.dst = d := by simpa [hi] using hd
    have hw' : Region.wanted o (yielded ops a.tmps) = false := by simpa [hi] using hw
    subst hd'
    exact wpAnyH_take hi hs hf hr hQ (.inr ⟨hw', rfl⟩) hS h
theorem hCall {i : Nat} {f : FuncId} {args : Array Value} {v : Value} {T : World → Prop} {fuel : Nat} {listed : Array Bool} {a : Act} {w : World} (d : Option Tmp) (hd : (ops[i]?).map (·.dst) = some d)
    (hr : Region.ready md ops listed = [i]) (hw : (ops[i]?).map (fun o => Region.wanted o (yielded ops a.tmps)) = some true)
    (hrun : ∀ o, ops[i]? = some o → (execOp a.eval o).run P w = .ok (.enter f args) w) (hC : Calls P f args w fun e w' => e = .returned v ∧ T w')
    (hK : ∀ w', T w' → S w' ∧ wpAnyH P md ops Q S fuel (listed.setIfInBounds i true) (a.put d v) w') : wpAnyH P md ops Q S (fuel + 1) listed a w := by
  refine wpAnyH_all hr (by simp) ?_
  intro j hj
  obtain rfl : j = i := by simpa using hj
  cases hi : ops[j]? with
  | none => simp [hi] at hd
  | some o =>
    have hd' : o.dst = d := by simpa [hi] using hd
    have hw' : Region.wanted o (yielded ops a.tmps) = true := by simpa [hi] using hw
    subst hd'
    unfold wpOp
    simp only [hi, hw', if_true, Oper.wp, hrun o hi, Oper.upon]
    refine .inl (hC.mono fun e w'' he => ?_)
    obtain ⟨rfl, ht⟩ := he
    exact hK _ ht
end
end Go.Proofs.YtfgaenggbbgboaaGreatDoor

namespace Go.Proofs.YtfgaenggbbgboaaGreatDoor
open Go
theorem hStep {P : Program} {ops : Array Oper} {Q : Exit → Act → World → Prop} {md : Region.Mode} {S : World → Prop} {i : Nat} {v : Value} {fuel : Nat} {listed : Array Bool} {a : Act} {w w' : World} (d : Option Tmp) (hd : (ops[i]?).map (·.dst) = some d)
    (hr : Region.ready md ops listed = [i]) (hw : (ops[i]?).map (fun o => Region.wanted o (yielded ops a.tmps)) = some true)
    (hrun : ∀ o, ops[i]? = some o → (execOp a.eval o).run P w = .ok (.value v) w') (hS : S w') (h : wpAnyH P md ops Q S fuel (listed.setIfInBounds i true) (a.put d v) w') : wpAnyH P md ops Q S (fuel + 1) listed a w := by
  refine wpAnyH_all hr (by simp) ?_
  intro j hj
  obtain rfl : j = i := by simpa using hj
  cases hi : ops[j]? with
  | none => simp [hi] at hd
  | some o =>
    have hd' : o.dst = d := by simpa [hi] using hd
    have hw' : Region.wanted o (yielded ops a.tmps) = true := by simpa [hi] using hw
    subst hd'
    unfold wpOp
    simp only [hi, hw', if_true, Oper.wp, hrun o hi, Oper.upon]
    exact .inl ⟨hS, h⟩
theorem hCallE {P : Program} {ops : Array Oper} {Q : Exit → Act → World → Prop} {md : Region.Mode} {S : World → Prop} {i : Nat} {f : FuncId} {args : Array Value} {R : Ending → World → Prop} {fuel : Nat} {listed : Array Bool} {a : Act} {w : World} (d : Option Tmp) (hd : (ops[i]?).map (·.dst) = some d)
    (hr : Region.ready md ops listed = [i]) (hw : (ops[i]?).map (fun o => Region.wanted o (yielded ops a.tmps)) = some true)
    (hrun : ∀ o, ops[i]? = some o → (execOp a.eval o).run P w = .ok (.enter f args) w) (hC : Calls P f args w R) (hK : ∀ u w', R (.returned u) w' → S w' ∧ wpAnyH P md ops Q S fuel (listed.setIfInBounds i true) (a.put d u) w')
    (hP : ∀ ch w', ¬ R (.panicked ch) w') (hO : ∀ w', ¬ R .outgrown w') : wpAnyH P md ops Q S (fuel + 1) listed a w := by
  refine wpAnyH_all hr (by simp) ?_
  intro j hj
  obtain rfl : j = i := by simpa using hj
  cases hi : ops[j]? with
  | none => simp [hi] at hd
  | some o =>
    have hd' : o.dst = d := by simpa [hi] using hd
    have hw' : Region.wanted o (yielded ops a.tmps) = true := by simpa [hi] using hw
    subst hd'
    unfold wpOp
    simp only [hi, hw', if_true, Oper.wp, hrun o hi, Oper.upon]
    refine .inl (hC.mono fun e w'' he => ?_)
    cases e with
    | returned u => exact hK u w'' he
    | panicked ch => exact absurd he (hP ch w'')
    | outgrown => exact absurd he (hO w'')
end Go.Proofs.YtfgaenggbbgboaaGreatDoor

namespace Go.Proofs.YtfgaenggbbgboaaGreatDoor
open Go Go.RowKit
set_option linter.unusedVariables false
def NormOk (a : Addr) (M : Nat) : Prop := ∀ (c : Cel) (k : Fo) (v : Value) (Bt : Nat) (w0 w : World), k.cells.length ≤ M → (Fo.node c k .nil).ok → FoIn w0 Bt (.node c k .nil) [v] → w0.cell? ⟨1, 0, none⟩ = some (efV a) → Below w0.heap.size w0 w →
  Calls Tryz.prog 79 #[v] w (NmOut w0 w a (normT c k))
theorem norm_snoc {D GD : Fo} {c : Cel} {k G r K : Fo} (hD : normF D = some GD) (h : normT c k = some G) : normF (D.cat (.node c k .nil)) = some (GD.cat G) := by
  rw [normF_cat, hD, normF_one, h]; rfl
theorem norm_stop {D GD : Fo} {c : Cel} {k r : Fo} (hD : normF D = some GD) (h : normT c k = none) : normF (D.cat (.node c k r)) = none := by
  rw [normF_cat, hD, normF, show normH c k (normF k) = none from h]; rfl
set_option maxRecDepth 100000 in
set_option maxHeartbeats 2000000 in
theorem normal_comp (s : List Int) (n : Int) (k : Fo) (b g : Nat) (vs : List Value) (a : Addr) (Bt : Nat) (w0 w : World) (ih : ∀ m, m < k.cells.length → NormOk a m) (hok : (Fo.node (3, n, s) k .nil).ok) (hcomp : CompAt w0 Bt s k b g vs)
    (hg : w0.cell? ⟨1, 0, none⟩ = some (efV a)) (hw : Below w0.heap.size w0 w) :
    Calls Tryz.prog 79 #[.iface 122 (.pointer (some ⟨b, 0, none⟩))] w (NmOut w0 w a (normT (3, n, s) k)) := by
  have HC : Hid (CompAt w0 Bt s k b g vs) := hcomp
  have hvl2 : vs.length = k.count := FoIn.count _ _ hcomp.2.2.2.2.2.2
  have hcn : n = k.count := hok.2.2.1 rfl
  have hcb : cellB 3 n s.length = true := hok.1
  simp only [cellB, decide_eq_true_eq] at hcb
  have hby := hok.2.1
  obtain ⟨q, eq⟩ : ∃ q, q = vs.length := ⟨_, rfl⟩
  have hnq : n = (q : Int) := by omega
  subst hnq
  have hq1 : 1 ≤ q := by omega
  have hq : q ≤ 20 := by omega
  have HE : Hid (q = vs.length ∧ vs.length = k.count) := ⟨eq, hvl2⟩
  have HK : Hid k.ok := hok.2.2.2.2.1
  have d0 := (hw.cell (World.block_lt_of_cell? _ _ hcomp.2.2.1)).trans hcomp.2.2.1
  have d1 := (hw.cell (World.block_lt_of_cell? _ _ hcomp.2.2.2.1)).trans hcomp.2.2.2.1
  rw [← eq] at d1
  have HFU := nbFO_comp b g q (strOfNums s) w d0 d1
  have HW : Hid (Below w0.heap.size w0 w) := hw
  have HIH : Hid (∀ m, m < k.cells.length → NormOk a m) := ih
  have hsz : (strOfNums s).size ≤ 1000000000 := by rw [size_str]; omega
  have HNW := fun W => isNew_any (strOfNums s) q W hsz
  have HCN := fun W => isConstruct_any (strOfNums s) q W
  have HIV := fun W => nbIsVar_comp (.pointer (some ⟨b, 0, none⟩)) W
  have HAR : Hid (∀ W, Below w.heap.size w W → Calls Tryz.prog 76 #[.iface 122 (.pointer (some ⟨b, 0, none⟩))] W fun e w' => e = .returned (.slice (some ⟨g, 0, none⟩) q q) ∧ w' = W) := fun W hW => nbArgs_comp b g q W ((hW.cell (World.block_lt_of_cell? _ _ d1)).trans d1)
  rw [dol_str hby] at HNW
  rw [con_str hby q (by omega)] at HCN
  have HT : Hid (∀ W, Below w.heap.size w W → FoA (fun b => w0.heap.size ≤ b ∧ b < w.heap.size) W (.node (3, (q : Int), s) k .nil) [.iface 122 (.pointer (some ⟨b, 0, none⟩))]) := fun W hW =>
    FoIn.foA (W0 := w0) (Bt := Bt) (by rw [eq] at *; exact ⟨_, [], rfl, .inr (.inr (.inr ⟨rfl, b, g, vs, rfl, hcomp⟩)), rfl⟩) (Below.on hw hW) (fun a h => h.1)
  have HG : Hid (w.cell? ⟨1, 0, none⟩ = some (efV a)) := (hw.cell (World.block_lt_of_cell? _ _ hg)).trans hg
  have HG0 : Hid (w0.cell? ⟨1, 0, none⟩ = some (efV a)) := hg
  have HN : Hid (normT (3, (q : Int), s) k = if dolL s = true then none else if conC (3, (q : Int), s) = true then (normF k).map (normK (3, (q : Int), s)) else some (.node (3, (q : Int), s) k .nil)) := by
    show _ = _
    unfold normT normH
    rw [if_neg (show ¬ (3 : Int) = 0 by decide)]
    by_cases h : dolL s = true
    · rw [if_pos (.inr h), if_pos h]
    · rw [if_neg (by simp [h]), if_neg h]
  have HS1 : Hid (((strOfNums s).toList == [111, 110, 99, 101]) = (s == nOnce)) := str_is hby _ _ rfl
  have HS2 : Hid (((strOfNums s).toList == [102, 111, 114, 97, 108, 108]) = (s == nAll)) := str_is hby _ _ rfl
  obtain ⟨str, es⟩ : ∃ str, str = strOfNums s := ⟨_, rfl⟩
  have HES : Hid (str = strOfNums s) := es
  rw [← es] at HNW HCN HFU HS1 HS2
  obtain ⟨i0, hi, hz0, hz1, hz2⟩ := info_parts infoTerm
  have hmx : q ≤ maxLen := by unfold maxLen; omega
  clear hg hby hok hcomp hvl2 hcn hcb eq d0 d1 hw ih hsz es
  cases hd : dolL s with
  | true =>
    rw [hd] at HNW HN
    clear hd HCN HAR HS1 HS2
    go_enter Tryz.func79, Tryz.ntmps79
    go_wp2_with fail
    refine HFU.mono ?_
    rintro e w1 ⟨rfl, hb1⟩
    have HB1 : Hid (Below w.heap.size w w1) := hb1
    clear hb1 HFU
    go_wp2_with fail
    refine (HIV _).mono ?_
    rintro e w2 ⟨rfl, rfl⟩
    go_wp2_with fail
    refine (HNW _).mono ?_
    rintro e w3 ⟨rfl, hb3⟩
    have HB3 : Hid (Below w.heap.size w w3) := (HB1.out.alloc HB1.out.size _).trans (hb3.mono (by have := HB1.out.size; simp; omega))
    have hg1 := (HB3.out.cell (World.block_lt_of_cell? _ _ HG.out)).trans HG.out
    clear hb3
    go_wp2_with fail
    go_region
    all_goals go_wp2_with fail
    all_goals go_ret2
    all_goals exact nmOut_none HN.out HB3.out.drew
  | false =>
    rw [hd] at HNW HN
    have HN2 : Hid (normT (3, (q : Int), s) k = if conC (3, (q : Int), s) = true then (normF k).map (normK (3, (q : Int), s)) else some (.node (3, (q : Int), s) k .nil)) := HN.out
    clear hd HN
    cases hc : conC (3, (q : Int), s) with
    | false =>
      rw [hc] at HCN HN2
      clear hc HS1 HS2 HAR
      go_enter Tryz.func79, Tryz.ntmps79
      go_wp2_with fail
      refine HFU.mono ?_
      rintro e w1 ⟨rfl, hb1⟩
      have HB1 : Hid (Below w.heap.size w w1) := hb1
      clear hb1 HFU
      go_wp2_with fail
      refine (HIV _).mono ?_
      rintro e w2 ⟨rfl, rfl⟩
      go_wp2_with fail
      refine (HNW _).mono ?_
      rintro e w3 ⟨rfl, hb3⟩
      have HB3 : Hid (Below w.heap.size w w3) := (HB1.out.alloc HB1.out.size _).trans (hb3.mono (by have := HB1.out.size; simp; omega))
      have k := hb3.block w1.heap.size (by simp)
      rw [heap_alloc_new] at k
      obtain ⟨c0, c1, _, _⟩ := two_cells k
      clear hb3 k
      go_wp2_with fail
      refine (HCN _).mono ?_
      rintro e w4 ⟨rfl, hb4⟩
      have HB4 : Hid (Below w.heap.size w w4) := Below.on HB3.out hb4
      clear hb4
      go_wp2_with fail
      go_ret2
      exact nmOut_some HN2.out HB4.out (HT.out _ HB4.out)
    | true =>
      rw [hc] at HCN HN2
      have HN3 : Hid (normT (3, (q : Int), s) k = (normF k).map (normK (3, (q : Int), s))) := HN2.out
      clear HT HN2
      have HCC : Hid (conC (3, (q : Int), s) = true) := hc
      clear hc
      go_enter Tryz.func79, Tryz.ntmps79
      go_wp2_with fail
      refine HFU.mono ?_
      rintro e w1 ⟨rfl, hb1⟩
      have HB1 : Hid (Below w.heap.size w w1) := hb1
      clear hb1 HFU
      go_wp2_with fail
      refine (HIV _).mono ?_
      rintro e w2 ⟨rfl, rfl⟩
      go_wp2_with fail
      refine (HNW _).mono ?_
      rintro e w3 ⟨rfl, hb3⟩
      have HB3 : Hid (Below w.heap.size w w3) := (HB1.out.alloc HB1.out.size _).trans (hb3.mono (by have := HB1.out.size; simp; omega))
      have kk := hb3.block w1.heap.size (by simp)
      rw [heap_alloc_new] at kk
      have HK3 : Hid (w3.heap[w1.heap.size]? = some (.cells #[.string str, .int .i64 q] 52)) := kk
      have HL3 : Hid (w1.heap.size < w3.heap.size) := by have := hb3.size; simp at this; show _ < _; omega
      obtain ⟨c0, c1, _, _⟩ := two_cells kk
      clear hb3 kk
      go_wp2_with fail
      refine (HCN _).mono ?_
      rintro e w4 ⟨rfl, hb4⟩
      have HB4 : Hid (Below w.heap.size w w4) := Below.on HB3.out hb4
      have HK4 : Hid (w4.heap[w1.heap.size]? = some (.cells #[.string str, .int .i64 q] 52)) := (hb4.block _ HL3.out).trans HK3.out
      have HL4 : Hid (w1.heap.size < w4.heap.size) := Nat.lt_of_lt_of_le HL3.out hb4.size
      obtain ⟨d0, d1, _, _⟩ := two_cells HK4.out
      clear hb4 c0 c1
      go_wp2_with (at_make; refine wpList_make_full _ rfl _ _ 109 rfl w4.heap.size 59 i0 .nilIface 1 Tryz.underlying109 hi hz0 hz1 _ _ _ _ q rfl rfl rfl rfl (by rw [hz2]; omega) hmx (Nat.le_refl _) ?_; intro w5 hown hgrow)
      have HG1 : Hid (Below w4.heap.size w4 w5) := (Below.refl _ _).grown hgrow (Nat.le_refl _) (fun k h => by cases h)
      have HO1 : Hid (w5.ownsRow w4.heap.size 59 1 (.slice (some ⟨w4.heap.size, 0, none⟩) q q) q ([] ++ List.replicate (q - 0) .nilIface)) := by
        have := hown
        simp [Value.cells, toList_madeCells_one] at this
        exact this
      have hs1 : w4.heap.size + 1 ≤ w5.heap.size := by have := (hown.lt w4.heap.size rfl).2; omega
      have HA5 := HAR.out w5 (Below.on HB4.out HG1.out)
      clear hown hgrow hi hz0 hz1 hz2 d0 d1 HAR HNW HCN HIV
      refine HA5.mono ?_
      rintro e w6 ⟨rfl, rfl⟩
      clear HA5
      go_wp2_with fail
      go_loopw [41] (fun i wr => ∃ (D R GD : Fo) (us vs2 ns : List Value) (j : Nat), j ≤ q ∧ i = .int .i64 j ∧ Hid (k = D.cat R ∧ vs = us ++ vs2 ∧ us.length = j ∧ ns.length = j) ∧ Hid (FoIn w0 Bt R vs2) ∧
        Hid (wr.ownsRow w4.heap.size 59 1 (.slice (some ⟨w4.heap.size, 0, none⟩) q q) q (ns ++ List.replicate (q - j) .nilIface)) ∧ Hid (normF D = some GD) ∧ Hid (FoA (fun b => (w0.heap.size ≤ b ∧ b < w.heap.size) ∨ b = w4.heap.size) wr GD ns) ∧ Hid (Below w4.heap.size w4 wr) ∧ w4.heap.size + 1 ≤ wr.heap.size) (fun i _ => q - (intOf i).toNat)
      case atStart => exact ⟨.nil, k, .nil, [], vs, [], 0, Nat.zero_le _, rfl, ⟨rfl, rfl, rfl, rfl⟩, HC.out.2.2.2.2.2.2, HO1, rfl, rfl, HG1, hs1⟩
      case round =>
        obtain ⟨D, R, GD, us, vs2, ns, j, hj, rfl, HF, HR, HO, HND, HFO, HG5, hsz⟩ := hrel
        have hwr : Below w0.heap.size w0 wr := Below.on (Below.on HW.out HB4.out) HG5.out
        by_cases hlt : j < q
        · obtain ⟨c', k', r', rfl⟩ : ∃ c' k' r', R = .node c' k' r' := by
            cases R with
            | nil =>
              have h1 := HF.out
              have h2 : vs2 = [] := HR.out
              have h3 := HE.out.1
              rw [h1.2.1, h2, List.append_nil] at h3
              omega
            | node c' k' r' => exact ⟨c', k', r', rfl⟩
          obtain ⟨v, vr, rfl, hnode, hrest⟩ := HR.out
          have hok2 := (Fo.ok_cat D (.node c' k' r')).1 (HF.out.1 ▸ HK.out)
          have hl2 : D.cells.length + (k'.cells.length + r'.cells.length + 1) = k.cells.length := by
            rw [HF.out.1, Fo.cells_cat]; simp [Fo.cells]
          have hat : w0.cell? ⟨g, j, none⟩ = some v := by
            rw [HC.out.2.2.2.2.2.1 j (by rw [← HE.out.1]; exact hlt), HF.out.2.1]
            simp [List.getD, HF.out.2.2.1]
          have c5 : wr.cell? ⟨g, j, none⟩ = some v := (hwr.cell (World.block_lt_of_cell? _ _ hat)).trans hat
          have HRC := HIH.out k'.cells.length (by omega) c' k' v Bt w0 wr (Nat.le_refl _) ⟨hok2.2.1, hok2.2.2.1, hok2.2.2.2.1, hok2.2.2.2.2.1, hok2.2.2.2.2.2.1, trivial⟩ ⟨v, [], rfl, hnode, rfl⟩ HG0.out hwr
          obtain ⟨vt, vx, rfl⟩ := hnode.iface
          have HRR : Hid (FoIn w0 Bt r' vr) := hrest
          have HOK2 : Hid ((Fo.node c' k' .nil).ok) := ⟨hok2.2.1, hok2.2.2.1, hok2.2.2.2.1, hok2.2.2.2.2.1, hok2.2.2.2.2.2.1, trivial⟩
          clear hok2 hl2 hat hwr hnode hrest HIH
          cases hnt : normT c' k' with
          | none =>
            rw [hnt] at HRC
            have HNN : Hid (normT (3, (q : Int), s) k = none) := by
              show _ = _
              rw [HN3.out, HF.out.1, norm_stop HND.out hnt]; rfl
            clear hnt
            go_wp2_with fail
            refine HRC.mono ?_
            rintro e w7 hout
            obtain ⟨hg7, rfl⟩ := hout
            have HB7 : Hid (Below w.heap.size w w7) := Below.on (Below.on HB4.out HG5.out) hg7
            clear hg7 HRC
            go_wp2_with fail
            go_ret2
            exact nmOut_none HNN.out HB7.out
          | some G =>
            rw [hnt] at HRC
            have HGO : Hid (∃ c7 k7, G = .node c7 k7 .nil) := by
              obtain ⟨c7, k7, e7, _⟩ := normT_ok hnt HOK2.out
              exact ⟨c7, k7, e7⟩
            have HNS : Hid (normF (D.cat (.node c' k' .nil)) = some (GD.cat G)) := norm_snoc (r := .nil) (K := .nil) HND.out hnt
            clear hnt
            go_wp2_with fail
            refine HRC.mono ?_
            rintro e w7 hout
            obtain ⟨hg7, v7, rfl, hfo7⟩ := hout
            obtain ⟨c7, k7, rfl⟩ := HGO.out
            obtain ⟨nt, nx, rfl⟩ := FoIn.iface hfo7
            have e0 : w7.cell? ⟨w4.heap.size, j, none⟩ = some .nilIface := by
              rw [hg7.cell (p := ⟨w4.heap.size, j, none⟩) (show w4.heap.size < wr.heap.size by omega), HO.out.cellAt j (by omega), List.getElem?_append_right (by have := HF.out.2.2.2; omega), List.getElem?_replicate, if_pos (by have := HF.out.2.2.2; omega)]
            have e1 : w7.frozen? ⟨w4.heap.size, j, none⟩ = false := (hg7.frozen (p := ⟨w4.heap.size, j, none⟩) (show w4.heap.size < wr.heap.size by omega)).trans (HO.out.frozenAt j)
            have HO3 : Hid (w7.ownsRow w4.heap.size 59 1 (.slice (some ⟨w4.heap.size, 0, none⟩) q q) q (ns ++ List.replicate (q - j) .nilIface)) := row_below HO.out hg7
            have HN7 : Hid (k = (D.cat (.node c' k' .nil)).cat r' ∧ vs = (us ++ [Value.iface vt vx]) ++ vr ∧ (us ++ [Value.iface vt vx]).length = j + 1 ∧ (ns ++ [Value.iface nt nx]).length = j + 1) := ⟨by rw [Fo.cat_assoc]; exact HF.out.1, by rw [HF.out.2.1]; simp, by simp [HF.out.2.2.1], by simp [HF.out.2.2.2]⟩
            have hws : w.heap.size ≤ w4.heap.size := HB4.out.size
            have hw0s : w0.heap.size ≤ w.heap.size := HW.out.size
            have HF3 : Hid (FoA (fun b => (w0.heap.size ≤ b ∧ b < w.heap.size) ∨ b = w4.heap.size) (w7.setCell ⟨w4.heap.size, j, none⟩ (.iface nt nx)) (GD.cat (.node c7 k7 .nil)) (ns ++ [Value.iface nt nx])) := by
              have h1 : FoA (fun b => (w0.heap.size ≤ b ∧ b < w.heap.size) ∨ b = w4.heap.size) w7 (GD.cat (.node c7 k7 .nil)) (ns ++ [Value.iface nt nx]) :=
                (HFO.out.below hg7).cat (hfo7.less fun b _ h => by rcases h with h | h <;> omega)
              exact h1.move (fun p v hA hp => ⟨hA, (World.cell?_setCell_other _ _ _ _ (fun e => hA (.inr (by rw [← e])))).trans hp⟩) (by simp)
            have HG3 : Hid (Below w4.heap.size w4 (w7.setCell ⟨w4.heap.size, j, none⟩ (.iface nt nx))) := (Below.on HG5.out hg7).setCell (p := ⟨w4.heap.size, j, none⟩) (Nat.le_refl _) _
            have hsz3 : w4.heap.size + 1 ≤ w7.heap.size := Nat.le_trans hsz hg7.size
            clear hg7 hfo7 HRC hws hw0s
            go_wp2_with fail
            go_roundw
            case rel => exact ⟨D.cat (.node c' k' .nil), r', GD.cat (.node c7 k7 .nil), us ++ [Value.iface vt vx], vr, ns ++ [Value.iface nt nx], j + 1, by omega, by go_num, HN7, HRR, row_next HO3.out HF.out.2.2.2 hlt _, HNS, HF3, HG3, by simpa using hsz3⟩
            case measure => simp [intOf]; omega
        · obtain rfl : j = q := by omega
          obtain rfl : R = .nil := by
            have h1 := FoIn.count _ _ HR.out
            have h2 := HE.out
            rw [HF.out.2.1, List.length_append] at h2
            have h3 := HF.out.2.2.1
            cases R with
            | nil => rfl
            | node a b d => simp [Fo.count] at h1; omega
          have hD : D = k := by have := HF.out.1; rw [Fo.cat_nil] at this; exact this.symm
          subst hD
          have HKK : Hid (wr.heap[w1.heap.size]? = some (.cells #[.string str, .int .i64 j] 52)) := (HG5.out.block _ HL4.out).trans HK4.out
          obtain ⟨d0, d1, _, _⟩ := two_cells HKK.out
          have hns := HF.out.2.2.2
          have HNF : Hid (normT (3, (j : Int), s) D = some (normK (3, (j : Int), s) GD)) := by show _ = _; rw [HN3.out, HND.out]; rfl
          have HCT : Hid (GD.count = j) := by have := (normF_ok _ _ HND.out HK.out).2.1; have h2 := HE.out; show _ = _; omega
          have HRW : Hid (∀ i, i < ns.length → wr.cell? ⟨w4.heap.size, i, none⟩ = some (ns.getD i .nilIface)) := fun i hi => by
            rw [HO.out.cellAt i (by omega), List.getElem?_append_left (by omega)]
            simp [List.getD, hi]
          have HAL : Hid (w.heap.size ≤ w4.heap.size ∧ w4.heap.size < wr.heap.size ∧ w0.heap.size ≤ w.heap.size) := ⟨HB4.out.size, by omega, HW.out.size⟩
          have HFA : Hid (FoA (fun b => w0.heap.size ≤ b ∧ b < w.heap.size) wr GD ns) := HFO.out.less fun b _ h => .inl h
          have HBR : Hid (Below w.heap.size w wr) := Below.on HB4.out HG5.out
          have HNS : Hid (ns.length = j) := hns
          clear hns hwr HO HFO HIH HF HR HN3
          cases ho : (s == nOnce) with
          | true =>
            have t1 := HS1.out.trans ho
            have hse : s = nOnce := by simpa using ho
            have hj1 : j = 1 := by
              have h := HCC.out
              rw [hse] at h
              simp [conC] at h
              omega
            subst hj1
            obtain ⟨n0, rfl⟩ : ∃ n0, ns = [n0] := by
              have := HNS.out
              match ns, this with
              | [x], _ => exact ⟨x, rfl⟩
            obtain ⟨c8, k8, rfl⟩ := count_one HCT.out
            obtain ⟨nt, nx, rfl⟩ := FoIn.iface HFA.out
            have r0 := HRW.out 0 (by simp)
            simp only [List.getD_cons_zero] at r0
            have HFIN : Hid (NmOut w0 w a (normT (3, ((1 : Nat) : Int), s) D) (.returned (.tuple #[.iface 122 (.pointer (some ⟨wr.heap.size + 1, 0, none⟩)), .nilIface])) ((wr.alloc (.cells #[.iface nt nx, .iface 121 (.string ⟨#[116, 114, 117, 101]⟩)] 59)).alloc (.cells #[.string ⟨#[45, 62]⟩, .slice (some ⟨wr.heap.size, 0, none⟩) 2 2] 124))) := by
              have hsr := HBR.out.size
              refine nmOut_some HNF.out ((HBR.out.alloc hsr _).alloc (HBR.out.alloc hsr _).size _) ?_
              have h := comp_row (A := fun b => w0.heap.size ≤ b ∧ b < w.heap.size) (W := wr) (n := 2) (nm := [45, 62]) (k := (Fo.node c8 k8 .nil).cat (.node (2, 0, nTrue) .nil .nil)) (vs := [.iface nt nx, .iface 121 (.string ⟨#[116, 114, 117, 101]⟩)]) (fun b hb h => by omega) (HFA.out.cat foA_atom)
              rw [sThen] at h
              rw [normK_once (c := (3, ((1 : Nat) : Int), s)) hse]
              exact h
            clear ho hse d1
            go_wp2_with fail
            refine (callableN_any _ _ 2 _ (by decide) (by decide)).mono ?_
            rintro e w9 ⟨rfl, rfl⟩
            go_wp2_with fail
            go_ret2
            exact HFIN.out
          | false =>
            have t1 := HS1.out.trans ho
            have hse : ¬ s = nOnce := by simpa using ho
            cases ha : (s == nAll) with
            | true =>
              have t2 := HS2.out.trans ha
              have hsa : s = nAll := by simpa using ha
              have hj2 : j = 2 := by
                have h := HCC.out
                rw [hsa] at h
                simp [conC] at h
                omega
              subst hj2
              obtain ⟨n0, n1, rfl⟩ : ∃ n0 n1, ns = [n0, n1] := by
                have := HNS.out
                match ns, this with
                | [x, y], _ => exact ⟨x, y, rfl⟩
              obtain ⟨c8, k8, c9, k9, rfl⟩ := count_two HCT.out
              obtain ⟨nt, nx, rfl⟩ := FoIn.iface HFA.out
              have hfa2 : FoA (fun b => w0.heap.size ≤ b ∧ b < w.heap.size) wr (.node c9 k9 .nil) [n1] := by
                obtain ⟨_, _, e1, _, h2⟩ := HFA.out
                cases e1
                exact h2
              have hfa1 : FoA (fun b => w0.heap.size ≤ b ∧ b < w.heap.size) wr (.node c8 k8 .nil) [.iface nt nx] := by
                obtain ⟨_, _, e1, h1, h2⟩ := HFA.out
                cases e1
                exact ⟨_, [], rfl, h1, rfl⟩
              obtain ⟨mt, mx, rfl⟩ := FoIn.iface hfa2
              have r0 := HRW.out 0 (by simp)
              have r1 := HRW.out 1 (by simp)
              simp only [List.getD_cons_zero, List.getD_cons_succ] at r0 r1
              have hsr := HBR.out.size
              have hA : ∀ (X : World), wr.heap.size ≤ X.heap.size → ∀ b, X.heap.size ≤ b → ¬ (w0.heap.size ≤ b ∧ b < w.heap.size) := fun X hX b hb h => by omega
              have HFIN : Hid (NmOut w0 w a (normT (3, ((2 : Nat) : Int), s) D) (.returned (.tuple #[.iface 122 (.pointer (some ⟨wr.heap.size + 1 + 1 + 1 + 1 + 1, 0, none⟩)), .nilIface])) (((((((wr.drew).alloc (.cells #[.iface mt mx] 59)).alloc (.cells #[.string ⟨#[92, 43]⟩, .slice (some ⟨wr.heap.size, 0, none⟩) 1 1] 124)).alloc (.cells #[.iface nt nx, .iface 122 (.pointer (some ⟨wr.heap.size + 1, 0, none⟩))] 59)).alloc (.cells #[.string ⟨#[44]⟩, .slice (some ⟨wr.heap.size + 1 + 1, 0, none⟩) 2 2] 124)).alloc (.cells #[.iface 122 (.pointer (some ⟨wr.heap.size + 1 + 1 + 1, 0, none⟩))] 59)).alloc (.cells #[.string ⟨#[92, 43]⟩, .slice (some ⟨wr.heap.size + 1 + 1 + 1 + 1, 0, none⟩) 1 1] 124))) := by
                have hd : Below wr.heap.size wr wr.drew := (Below.refl _ _).drew
                have h1 := comp_row (A := fun b => w0.heap.size ≤ b ∧ b < w.heap.size) (W := wr.drew) (n := 1) (nm := [92, 43]) (k := .node c9 k9 .nil) (vs := [.iface mt mx]) (hA _ (Nat.le_refl _)) (hfa2.below hd)
                rw [sNot] at h1
                have hb2 : Below wr.drew.heap.size wr.drew (((wr.drew).alloc (.cells #[.iface mt mx] 59)).alloc (.cells #[.string ⟨#[92, 43]⟩, .slice (some ⟨wr.heap.size, 0, none⟩) 1 1] 124)) := ((Below.refl _ _).alloc (Nat.le_refl _) _).alloc (by simp) _
                have h2 := comp_row (A := fun b => w0.heap.size ≤ b ∧ b < w.heap.size) (W := (((wr.drew).alloc (.cells #[.iface mt mx] 59)).alloc (.cells #[.string ⟨#[92, 43]⟩, .slice (some ⟨wr.heap.size, 0, none⟩) 1 1] 124))) (n := 2) (nm := [44]) (vs := [.iface nt nx, .iface 122 (.pointer (some ⟨wr.heap.size + 1, 0, none⟩))]) (hA _ hb2.size) (((hfa1.below hd).below hb2).cat h1)
                rw [sComma] at h2
                have hb4 : Below wr.drew.heap.size wr.drew (((((wr.drew).alloc (.cells #[.iface mt mx] 59)).alloc (.cells #[.string ⟨#[92, 43]⟩, .slice (some ⟨wr.heap.size, 0, none⟩) 1 1] 124)).alloc (.cells #[.iface nt nx, .iface 122 (.pointer (some ⟨wr.heap.size + 1, 0, none⟩))] 59)).alloc (.cells #[.string ⟨#[44]⟩, .slice (some ⟨wr.heap.size + 1 + 1, 0, none⟩) 2 2] 124)) := (hb2.alloc hb2.size _).alloc (hb2.alloc hb2.size _).size _
                have h3 := comp_row (A := fun b => w0.heap.size ≤ b ∧ b < w.heap.size) (W := (((((wr.drew).alloc (.cells #[.iface mt mx] 59)).alloc (.cells #[.string ⟨#[92, 43]⟩, .slice (some ⟨wr.heap.size, 0, none⟩) 1 1] 124)).alloc (.cells #[.iface nt nx, .iface 122 (.pointer (some ⟨wr.heap.size + 1, 0, none⟩))] 59)).alloc (.cells #[.string ⟨#[44]⟩, .slice (some ⟨wr.heap.size + 1 + 1, 0, none⟩) 2 2] 124))) (n := 1) (nm := [92, 43]) (vs := [.iface 122 (.pointer (some ⟨wr.heap.size + 1 + 1 + 1, 0, none⟩))]) (hA _ hb4.size) (by simpa using h2)
                rw [sNot] at h3
                have hb6 : Below w.heap.size w (((((((wr.drew).alloc (.cells #[.iface mt mx] 59)).alloc (.cells #[.string ⟨#[92, 43]⟩, .slice (some ⟨wr.heap.size, 0, none⟩) 1 1] 124)).alloc (.cells #[.iface nt nx, .iface 122 (.pointer (some ⟨wr.heap.size + 1, 0, none⟩))] 59)).alloc (.cells #[.string ⟨#[44]⟩, .slice (some ⟨wr.heap.size + 1 + 1, 0, none⟩) 2 2] 124)).alloc (.cells #[.iface 122 (.pointer (some ⟨wr.heap.size + 1 + 1 + 1, 0, none⟩))] 59)).alloc (.cells #[.string ⟨#[92, 43]⟩, .slice (some ⟨wr.heap.size + 1 + 1 + 1 + 1, 0, none⟩) 1 1] 124)) := (Below.on (Below.on HBR.out hd) ((hb4.alloc hb4.size _).alloc (hb4.alloc hb4.size _).size _))
                refine nmOut_some HNF.out hb6 ?_
                rw [normK_all (c := (3, ((2 : Nat) : Int), s)) hsa]
                simpa [Fo.cat] using h3
              have C1 := callableN_any ⟨#[92, 43]⟩ (some ⟨wr.heap.size, 0, none⟩) 1 ((wr.drew).alloc (.cells #[.iface mt mx] 59)) (by decide) (by decide)
              have C2 := callableN_any ⟨#[44]⟩ (some ⟨wr.heap.size + 1 + 1, 0, none⟩) 2 ((((wr.drew).alloc (.cells #[.iface mt mx] 59)).alloc (.cells #[.string ⟨#[92, 43]⟩, .slice (some ⟨wr.heap.size, 0, none⟩) 1 1] 124)).alloc (.cells #[.iface nt nx, .iface 122 (.pointer (some ⟨wr.heap.size + 1, 0, none⟩))] 59)) (by decide) (by decide)
              have C3 := callableN_any ⟨#[92, 43]⟩ (some ⟨wr.heap.size + 1 + 1 + 1 + 1, 0, none⟩) 1 ((((((wr.drew).alloc (.cells #[.iface mt mx] 59)).alloc (.cells #[.string ⟨#[92, 43]⟩, .slice (some ⟨wr.heap.size, 0, none⟩) 1 1] 124)).alloc (.cells #[.iface nt nx, .iface 122 (.pointer (some ⟨wr.heap.size + 1, 0, none⟩))] 59)).alloc (.cells #[.string ⟨#[44]⟩, .slice (some ⟨wr.heap.size + 1 + 1, 0, none⟩) 2 2] 124)).alloc (.cells #[.iface 122 (.pointer (some ⟨wr.heap.size + 1 + 1 + 1, 0, none⟩))] 59)) (by decide) (by decide)
              rw [show ((wr.drew).alloc (.cells #[.iface mt mx] 59)).heap.size = wr.heap.size + 1 by simp] at C1
              rw [show ((((wr.drew).alloc (.cells #[.iface mt mx] 59)).alloc (.cells #[.string ⟨#[92, 43]⟩, .slice (some ⟨wr.heap.size, 0, none⟩) 1 1] 124)).alloc (.cells #[.iface nt nx, .iface 122 (.pointer (some ⟨wr.heap.size + 1, 0, none⟩))] 59)).heap.size = wr.heap.size + 1 + 1 + 1 by simp] at C2
              rw [show ((((((wr.drew).alloc (.cells #[.iface mt mx] 59)).alloc (.cells #[.string ⟨#[92, 43]⟩, .slice (some ⟨wr.heap.size, 0, none⟩) 1 1] 124)).alloc (.cells #[.iface nt nx, .iface 122 (.pointer (some ⟨wr.heap.size + 1, 0, none⟩))] 59)).alloc (.cells #[.string ⟨#[44]⟩, .slice (some ⟨wr.heap.size + 1 + 1, 0, none⟩) 2 2] 124)).alloc (.cells #[.iface 122 (.pointer (some ⟨wr.heap.size + 1 + 1 + 1, 0, none⟩))] 59)).heap.size = wr.heap.size + 1 + 1 + 1 + 1 + 1 by simp] at C3
              have HS0 : Hid (∀ X, Below wr.heap.size wr X → X.cell? ⟨w4.heap.size, 0, none⟩ = some (.iface nt nx) ∧ X.cell? ⟨w4.heap.size, 1, none⟩ = some (.iface mt mx)) := fun X hX => ⟨(hX.cell (World.block_lt_of_cell? _ _ r0)).trans r0, (hX.cell (World.block_lt_of_cell? _ _ r1)).trans r1⟩
              have HX0 : Hid (Below wr.heap.size wr (wr.drew)) := (Below.refl _ _).drew
              have HX1 : Hid (Below wr.heap.size wr ((wr.drew).alloc (.cells #[.iface mt mx] 59))) := HX0.out.alloc HX0.out.size _
              have HX2 : Hid (Below wr.heap.size wr (((wr.drew).alloc (.cells #[.iface mt mx] 59)).alloc (.cells #[.string ⟨#[92, 43]⟩, .slice (some ⟨wr.heap.size, 0, none⟩) 1 1] 124))) := HX1.out.alloc HX1.out.size _
              have HX3 : Hid (Below wr.heap.size wr ((((wr.drew).alloc (.cells #[.iface mt mx] 59)).alloc (.cells #[.string ⟨#[92, 43]⟩, .slice (some ⟨wr.heap.size, 0, none⟩) 1 1] 124)).alloc (.cells #[.iface nt nx, .iface 122 (.pointer (some ⟨wr.heap.size + 1, 0, none⟩))] 59))) := HX2.out.alloc HX2.out.size _
              have HX4 : Hid (Below wr.heap.size wr (((((wr.drew).alloc (.cells #[.iface mt mx] 59)).alloc (.cells #[.string ⟨#[92, 43]⟩, .slice (some ⟨wr.heap.size, 0, none⟩) 1 1] 124)).alloc (.cells #[.iface nt nx, .iface 122 (.pointer (some ⟨wr.heap.size + 1, 0, none⟩))] 59)).alloc (.cells #[.string ⟨#[44]⟩, .slice (some ⟨wr.heap.size + 1 + 1, 0, none⟩) 2 2] 124))) := HX3.out.alloc HX3.out.size _
              have HX5 : Hid (Below wr.heap.size wr ((((((wr.drew).alloc (.cells #[.iface mt mx] 59)).alloc (.cells #[.string ⟨#[92, 43]⟩, .slice (some ⟨wr.heap.size, 0, none⟩) 1 1] 124)).alloc (.cells #[.iface nt nx, .iface 122 (.pointer (some ⟨wr.heap.size + 1, 0, none⟩))] 59)).alloc (.cells #[.string ⟨#[44]⟩, .slice (some ⟨wr.heap.size + 1 + 1, 0, none⟩) 2 2] 124)).alloc (.cells #[.iface 122 (.pointer (some ⟨wr.heap.size + 1 + 1 + 1, 0, none⟩))] 59))) := HX4.out.alloc HX4.out.size _
              have HX6 : Hid (Below wr.heap.size wr (((((((wr.drew).alloc (.cells #[.iface mt mx] 59)).alloc (.cells #[.string ⟨#[92, 43]⟩, .slice (some ⟨wr.heap.size, 0, none⟩) 1 1] 124)).alloc (.cells #[.iface nt nx, .iface 122 (.pointer (some ⟨wr.heap.size + 1, 0, none⟩))] 59)).alloc (.cells #[.string ⟨#[44]⟩, .slice (some ⟨wr.heap.size + 1 + 1, 0, none⟩) 2 2] 124)).alloc (.cells #[.iface 122 (.pointer (some ⟨wr.heap.size + 1 + 1 + 1, 0, none⟩))] 59)).alloc (.cells #[.string ⟨#[92, 43]⟩, .slice (some ⟨wr.heap.size + 1 + 1 + 1 + 1, 0, none⟩) 1 1] 124))) := HX5.out.alloc HX5.out.size _
              clear ho ha hse hsa d1 hfa1 hfa2 hsr hA
              go_wp2_with fail
              refine wp_region_held_drew (S := fun W => W.cell? ⟨w4.heap.size, 0, none⟩ = some (.iface nt nx) ∧ W.cell? ⟨w4.heap.size, 1, none⟩ = some (.iface mt mx)) (by kernel_rfl) ?_ (fun hHeld => ?_)
              · exact HS0.out _ HX0.out
              refine hTake (i := 0) (v := .slice (some ⟨w4.heap.size, 0, none⟩) 2 2) (some 71) (by kernel_rfl) (by kernel_rfl) (by kernel_rfl) (by kernel_rfl) (by kernel_rfl) (fun _ _ _ h => h) (fun o ho W hSw => ?y0) (by assumption) ?_
              case y0 =>
                cases ho
                obtain ⟨s0, s1⟩ := hSw
                simp [execOp, go_sem, Act.eval]
              simp only [Act.put, List.setIfInBounds_toArray, List.set_cons_zero, List.set_cons_succ]
              refine hTake (i := 1) (v := .pointer (some ⟨w4.heap.size, 0, none⟩)) (some 72) (by kernel_rfl) (by kernel_rfl) (by kernel_rfl) (by kernel_rfl) (by kernel_rfl) (fun _ _ _ h => h) (fun o ho W hSw => ?y1) (by assumption) ?_
              case y1 =>
                cases ho
                obtain ⟨s0, s1⟩ := hSw
                simp [execOp, go_sem, Act.eval]
              simp only [Act.put, List.setIfInBounds_toArray, List.set_cons_zero, List.set_cons_succ]
              refine hTake (i := 2) (v := .iface nt nx) (some 73) (by kernel_rfl) (by kernel_rfl) (by kernel_rfl) (by kernel_rfl) (by kernel_rfl) (fun _ _ _ h => h) (fun o ho W hSw => ?y2) (by assumption) ?_
              case y2 =>
                cases ho
                obtain ⟨s0, s1⟩ := hSw
                simp [execOp, go_sem, Act.eval, s0]
              simp only [Act.put, List.setIfInBounds_toArray, List.set_cons_zero, List.set_cons_succ]
              refine hTake (i := 3) (v := .slice (some ⟨w4.heap.size, 0, none⟩) 2 2) (some 74) (by kernel_rfl) (by kernel_rfl) (by kernel_rfl) (by kernel_rfl) (by kernel_rfl) (fun _ _ _ h => h) (fun o ho W hSw => ?y3) (by assumption) ?_
              case y3 =>
                cases ho
                obtain ⟨s0, s1⟩ := hSw
                simp [execOp, go_sem, Act.eval]
              simp only [Act.put, List.setIfInBounds_toArray, List.set_cons_zero, List.set_cons_succ]
              refine hTake (i := 4) (v := .pointer (some ⟨w4.heap.size, 1, none⟩)) (some 75) (by kernel_rfl) (by kernel_rfl) (by kernel_rfl) (by kernel_rfl) (by kernel_rfl) (fun _ _ _ h => h) (fun o ho W hSw => ?y4) (by assumption) ?_
              case y4 =>
                cases ho
                obtain ⟨s0, s1⟩ := hSw
                simp [execOp, go_sem, Act.eval]
              simp only [Act.put, List.setIfInBounds_toArray, List.set_cons_zero, List.set_cons_succ]
              refine hTake (i := 5) (v := .iface mt mx) (some 76) (by kernel_rfl) (by kernel_rfl) (by kernel_rfl) (by kernel_rfl) (by kernel_rfl) (fun _ _ _ h => h) (fun o ho W hSw => ?y5) (by assumption) ?_
              case y5 =>
                cases ho
                obtain ⟨s0, s1⟩ := hSw
                simp [execOp, go_sem, Act.eval, s1]
              simp only [Act.put, List.setIfInBounds_toArray, List.set_cons_zero, List.set_cons_succ]
              refine hStep (i := 6) (v := .slice (some ⟨wr.heap.size, 0, none⟩) 1 1) (w' := ((wr.drew).alloc (.cells #[.iface mt mx] 59))) (some 77) (by kernel_rfl) (by kernel_rfl) (by kernel_rfl) (fun o ho => ?y6) (HS0.out _ HX1.out) ?_
              case y6 =>
                cases ho
                simp [execOp, go_sem, Act.eval]
              simp only [Act.put, List.setIfInBounds_toArray, List.set_cons_zero, List.set_cons_succ]
              refine hCall (i := 7) (some 78) (by kernel_rfl) (by kernel_rfl) (by kernel_rfl) (fun o ho => ?y7) C1 ?_
              case y7 =>
                cases ho
                simp [execOp, go_sem, Act.eval]
              rintro _ rfl
              refine ⟨HS0.out _ HX2.out, ?_⟩
              simp only [Act.put, List.setIfInBounds_toArray, List.set_cons_zero, List.set_cons_succ]
              refine hStep (i := 8) (v := .slice (some ⟨wr.heap.size + 1 + 1, 0, none⟩) 2 2) (w' := ((((wr.drew).alloc (.cells #[.iface mt mx] 59)).alloc (.cells #[.string ⟨#[92, 43]⟩, .slice (some ⟨wr.heap.size, 0, none⟩) 1 1] 124)).alloc (.cells #[.iface nt nx, .iface 122 (.pointer (some ⟨wr.heap.size + 1, 0, none⟩))] 59))) (some 79) (by kernel_rfl) (by kernel_rfl) (by kernel_rfl) (fun o ho => ?y8) (HS0.out _ HX3.out) ?_
              case y8 =>
                cases ho
                simp [execOp, go_sem, Act.eval]
              simp only [Act.put, List.setIfInBounds_toArray, List.set_cons_zero, List.set_cons_succ]
              refine hCall (i := 9) (some 80) (by kernel_rfl) (by kernel_rfl) (by kernel_rfl) (fun o ho => ?y9) C2 ?_
              case y9 =>
                cases ho
                simp [execOp, go_sem, Act.eval]
              rintro _ rfl
              refine ⟨HS0.out _ HX4.out, ?_⟩
              simp only [Act.put, List.setIfInBounds_toArray, List.set_cons_zero, List.set_cons_succ]
              refine hStep (i := 10) (v := .slice (some ⟨wr.heap.size + 1 + 1 + 1 + 1, 0, none⟩) 1 1) (w' := ((((((wr.drew).alloc (.cells #[.iface mt mx] 59)).alloc (.cells #[.string ⟨#[92, 43]⟩, .slice (some ⟨wr.heap.size, 0, none⟩) 1 1] 124)).alloc (.cells #[.iface nt nx, .iface 122 (.pointer (some ⟨wr.heap.size + 1, 0, none⟩))] 59)).alloc (.cells #[.string ⟨#[44]⟩, .slice (some ⟨wr.heap.size + 1 + 1, 0, none⟩) 2 2] 124)).alloc (.cells #[.iface 122 (.pointer (some ⟨wr.heap.size + 1 + 1 + 1, 0, none⟩))] 59))) (some 81) (by kernel_rfl) (by kernel_rfl) (by kernel_rfl) (fun o ho => ?y10) (HS0.out _ HX5.out) ?_
              case y10 =>
                cases ho
                simp [execOp, go_sem, Act.eval]
              simp only [Act.put, List.setIfInBounds_toArray, List.set_cons_zero, List.set_cons_succ]
              refine hCall (i := 11) (some 82) (by kernel_rfl) (by kernel_rfl) (by kernel_rfl) (fun o ho => ?y11) C3 ?_
              case y11 =>
                cases ho
                simp [execOp, go_sem, Act.eval]
              rintro _ rfl
              refine ⟨HS0.out _ HX6.out, ?_⟩
              simp only [Act.put, List.setIfInBounds_toArray, List.set_cons_zero, List.set_cons_succ]
              have hSS := HS0.out _ HX6.out
              refine hTake (i := 12) (v := .iface 122 (.pointer (some ⟨wr.heap.size + 1 + 1 + 1 + 1 + 1, 0, none⟩))) (some 2) (by kernel_rfl) (by kernel_rfl) (by kernel_rfl) (by kernel_rfl) (by kernel_rfl) (fun _ _ _ h => h) (fun o ho W hSw => ?y12) (by assumption) ?_
              case y12 =>
                cases ho
                obtain ⟨s0, s1⟩ := hSw
                simp [execOp, go_sem, Act.eval]
              simp only [Act.put, List.setIfInBounds_toArray, List.set_cons_zero, List.set_cons_succ]
              refine hTake (i := 13) (v := .nilIface) (some 3) (by kernel_rfl) (by kernel_rfl) (by kernel_rfl) (by kernel_rfl) (by kernel_rfl) (fun _ _ _ h => h) (fun o ho W hSw => ?y13) (by assumption) ?_
              case y13 =>
                cases ho
                obtain ⟨s0, s1⟩ := hSw
                simp [execOp, go_sem, Act.eval]
              simp only [Act.put, List.setIfInBounds_toArray, List.set_cons_zero, List.set_cons_succ]
              refine wpAnyH_done (by kernel_rfl) ?_ _
              change Exit.then _ _ _ _ _
              go_wp2_with fail
              go_ret2
              exact HFIN.out
            | false =>
              have t2 := HS2.out.trans ha
              have hsa : ¬ s = nAll := by simpa using ha
              have HFIN : Hid (NmOut w0 w a (normT (3, (j : Int), s) D) (.returned (.tuple #[.iface 122 (.pointer (some ⟨wr.heap.size, 0, none⟩)), .nilIface])) (wr.alloc (.cells #[.string str, .slice (some ⟨w4.heap.size, 0, none⟩) j j] 124))) := by
                have hsr := HBR.out.size
                have hal := HAL.out
                refine nmOut_some HNF.out (HBR.out.alloc hsr _) ?_
                have h := comp_new (A := fun b => w0.heap.size ≤ b ∧ b < w.heap.size) (W := wr) (n := (j : Int)) (nm := s) (k := GD) (g := w4.heap.size) (vs := ns) (fun h => by omega) (fun h => by omega) hal.2.1 HRW.out HFA.out
                rw [HNS.out, ← HES.out] at h
                rw [normK_else (c := (3, (j : Int), s)) hse hsa]
                exact h
              clear ho ha hse hsa d1
              go_wp2_with fail
              refine (callableN_any _ _ j _ hq1 (by omega)).mono ?_
              rintro e w9 ⟨rfl, rfl⟩
              go_wp2_with fail
              go_ret2
              exact HFIN.out
end Go.Proofs.YtfgaenggbbgboaaGreatDoor

