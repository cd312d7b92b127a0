/- AddOp of the program. Own work of the verifier. -/
import Derived.Test.YtbfhpnacoigfkaaDoorOpsM5
import Derived.Test.YtbfhpnacoigfkaaDoorOpsDf
namespace Go.Proofs.YtbfhpnacoigfkaaDoor
open Go Go.RowKit Go.Maps
set_option linter.unusedVariables false

/-- Arguments that are let. -/
def argB (cs : List Cel) (k n : Int) (m : Nat) : Bool := tabB cs && (decide (1 ≤ m ∧ m ≤ 100) && (decide (0 ≤ k ∧ k ≤ 1200) && decide (0 ≤ n ∧ n ≤ 6)))
def addR (cs : List Cel) (k n : Int) (xs : List Int) : List Cel × Int :=
  if argB cs k n xs.length = false then ([], 1)
  else if ((strOfNums xs).toList == [44] || resB (strOfNums xs)) = true then ([], 4)
  else if addCode cs (k, n, xs) ≠ 0 then ([], addCode cs (k, n, xs)) else (putO cs (k, n, xs), 0)

theorem tab_chain {cs : List Cel} (h : tabB cs = true) : cs.length ≤ 200 ∧ chainO none cs = true ∧ cs.any comC = true := by
  simp only [tabB, Bool.and_eq_true, decide_eq_true_eq] at h
  exact ⟨h.1, h.2.1, h.2.2⟩
theorem chain_ok : ∀ (cs : List Cel) (a : Option Cel), chainO a cs = true → ∀ c ∈ cs, okC c = true
  | [], _, _, c, hc => by cases hc
  | x :: r, a, h, c, hc => by
    simp only [chainO, Bool.and_eq_true] at h
    rcases List.mem_cons.1 hc with rfl | hc
    · exact h.1.1
    · exact (chainO_all r x h.2 c hc).2
theorem okC_len {c : Cel} (h : okC c = true) : c.2.2.length ≤ 100 := by
  simp only [okC, okB, Bool.and_eq_true, decide_eq_true_eq] at h
  exact h.1.2
theorem asc_apart {cs : List Cel} (h : Asc cs) : Apart cs := List.Pairwise.imp (fun h => ltO_key h) h
theorem addT_mem {cs : List Cel} {o : Cel} (h : addCode cs o = 0) (hA : Asc cs) : ∀ x, x ∈ addT cs o ↔ x ∈ putO cs o := fun x => by
  rw [addT, if_neg (by rw [h]; simp), putO]
  by_cases hp : o.1 = 0
  · rw [if_pos hp, hp, show ((0 : Int) == 0) = true from rfl, putL_done]; rfl
  · have : (o.1 == 0) = false := by simpa using hp
    rw [if_neg hp, this, putL_mem]
    simp only [List.mem_append, mem_dropK, List.mem_singleton]
    constructor
    · rintro (h | h)
      · exact .inr h
      · exact .inl h
    · rintro (h | h)
      · exact .inr h
      · exact .inl h
theorem putO_asc {cs : List Cel} {o : Cel} (hA : Asc cs) : Asc (putO cs o) := by
  rw [putO]
  cases h : (o.1 == 0) with
  | true => rw [putL_done]; exact hA.filter _
  | false => exact putL_asc o cs hA
/-- A comma stays. -/
theorem addT_pos {cs : List Cel} {o : Cel} (h : cs.any comC = true) (ho : comC o = false) (hc : addCode cs o = 0) : 0 < (addT cs o).length := by
  obtain ⟨c, hc1, hc2⟩ := List.any_eq_true.1 h
  have hk : keyC c ≠ keyC o := fun e => by
    have h1 : (strOfNums c.2.2).toList = (strOfNums o.2.2).toList := (Prod.mk.inj e).1
    simp only [comC, beq_iff_eq] at hc2
    rw [comC, ← h1, hc2] at ho
    simp at ho
  have hm : c ∈ addT cs o := by
    rw [addT, if_neg (by rw [hc]; simp)]
    split
    · exact mem_dropK.2 ⟨hc1, hk⟩
    · exact List.mem_append_left _ (mem_dropK.2 ⟨hc1, hk⟩)
  exact List.length_pos_of_mem hm

def AddE (w : World) (r : List Cel × Int) (e : Ending) (w' : World) : Prop := ∃ p n c, e = .returned (.tuple #[.slice p n c, .int .i64 r.2]) ∧ OwnO w' w.heap.size p n c r.1 ∧ Below w.heap.size w w'
theorem AddE.code {w w' : World} {r : List Cel × Int} {k : Int} (h : r = ([], k)) (hb : Below w.heap.size w w') : AddE w r (.returned (.tuple #[.slice none 0 0, .int .i64 k])) w' := ⟨none, 0, 0, by rw [h], by rw [h]; exact OwnO.nil _ _, hb⟩

theorem addR_def {cs : List Cel} {k n : Int} {xs : List Int} (h : tabB cs = true) : addR cs k n xs = if defCode cs (k, n, xs) ≠ 0 then ([], defCode cs (k, n, xs)) else (putO cs (k, n, xs), 0) := by
  have e : argB cs k n xs.length = defB k n xs.length := by rw [argB, h]; rfl
  unfold addR defCode
  rw [e]
  cases h1 : defB k n xs.length with
  | false => rfl
  | true =>
    simp only [Bool.true_eq_false, if_false]
    cases h2 : ((strOfNums xs).toList == [44] || resB (strOfNums xs)) with
    | true => rfl
    | false => rfl
theorem def_zero {cs : List Cel} {o : Cel} (h : defCode cs o = 0) : addCode cs o = 0 ∧ comC o = false ∧ defT cs o = addT cs o := by
  have h' := h
  unfold defCode at h
  split at h
  · exact absurd h (by decide)
  · split at h
    · exact absurd h (by decide)
    · rename_i h2
      refine ⟨h, ?_, by rw [defT, if_pos h']⟩
      simp only [Bool.or_eq_true, not_or, Bool.not_eq_true] at h2
      exact h2.1

set_option maxRecDepth 100000 in
set_option maxHeartbeats 2000000 in
theorem implAdd_any (p : Option Addr) (c : Nat) (cs : List Cel) (k n : Int) (q : Option Addr) (cq : Nat) (xs : List Int) (w : World) (hn : cs.length + tl cs ≤ 1000000000) (hin : OIn w p cs) (hby : ∀ x ∈ cs, Byte x.2.2) (hxs : Byte xs) (hxl : xs.length ≤ 1000000000) (hx : BIn w q xs) :
    Calls Tryd.prog 12 #[.slice p cs.length c, .int .i64 k, .int .i64 n, .slice q xs.length cq] w (AddE w (addR cs k n xs)) := by
  have HV := implTab_any p c cs w hn hin
  cases g1 : tabB cs with
  | false =>
    rw [g1] at HV
    have HF : Hid (∀ W, Below w.heap.size w W → AddE w (addR cs k n xs) (.returned (.tuple #[.slice none 0 0, .int .i64 1])) W) := fun W hb => AddE.code (by rw [addR, if_pos (by rw [argB, g1]; rfl)]) hb
    clear g1 hin hby hxs hx
    go_enter Tryd.func12, Tryd.ntmps12
    go_wp2_with (first | (go_at_call 14; refine HV.mono ?_; rintro e w1 ⟨rfl, hb1⟩))
    go_ret2
    exact HF.out _ hb1
  | true =>
    rw [g1] at HV
    obtain ⟨hlen, hch, hany⟩ := tab_chain g1
    have hasc := chain_asc cs none hch
    have hokT : ∀ x ∈ cs, okT x := fun x hx => ⟨hby x hx, by have := okC_len (chain_ok cs none hch x hx); omega⟩
    have HTO : Hid (∀ W, Below w.heap.size w W → Calls Tryd.prog 35 #[.slice p cs.length c] W fun e w' => e = .returned (.map (some W.heap.size)) ∧ OpMap w' W.heap.size cs.length cs ∧ Below W.heap.size W w') := fun W hB => tableOf_any p c cs W (by omega) hokT (asc_apart hasc) (hin.below hB)
    obtain ⟨s, es⟩ : ∃ s, s = strOfNums xs := ⟨_, rfl⟩
    have HDF : Hid (∀ (W : World) (b : Nat), OpMap W b cs.length cs → Calls Tryd.prog 36 #[.map (some b), .agg #[.string s, .int .i64 k, .int .i64 n]] W (DefOut W b b cs.length cs (k, n, xs))) := fun W b hm => define_any b cs.length b cs k n xs s W es hxs hxl hm (by omega) (Nat.le_refl _) (by omega)
    have HOP : Hid (∀ (W : World) (b N : Nat), defCode cs (k, n, xs) = 0 → OpMap W b N (defT cs (k, n, xs)) → Calls Tryd.prog 19 #[.map (some b)] W (OpsOut W (addT cs (k, n, xs)))) := fun W b N hc hm => by
      obtain ⟨hc, hcom, hd⟩ := def_zero hc
      rw [hd] at hm
      exact ops_any b N _ W hm (by
        have h1 : (addT cs (k, n, xs)).length ≤ cs.length + 1 := by
          rw [addT, if_neg (by rw [hc]; simp)]
          have h2 : (dropK cs (keyC (k, n, xs))).length ≤ cs.length := List.length_filter_le _ _
          split
          · omega
          · simp; omega
        omega) (addT_pos hany hcom hc)
    have HRES : Hid (addR cs k n xs = if defCode cs (k, n, xs) ≠ 0 then ([], defCode cs (k, n, xs)) else (putO cs (k, n, xs), 0)) := addR_def g1
    have HUNI : Hid (defCode cs (k, n, xs) = 0 → ∀ ds, Asc ds → (∀ x, x ∈ ds ↔ x ∈ addT cs (k, n, xs)) → ds = putO cs (k, n, xs)) := fun hc ds h1 h2 => asc_unique _ _ h1 (putO_asc hasc) (fun x => (h2 x).trans (addT_mem (def_zero hc).1 hasc x))
    have HCV : Hid (∀ W, Below w.heap.size w W → (convert 27 9 (.slice q xs.length cq)).run Tryd.prog W = .ok (.string s) W) := fun W hB => by rw [es]; exact conv_str (hx.below hB) xs.length cq rfl 9 Tryd.underlying9
    clear g1 hlen hch hany hasc hokT hin hby hxs hx es hn
    go_enter Tryd.func12, Tryd.ntmps12
    go_wp2_with (first | (go_at_call 14; refine HV.mono ?_; rintro e w1 ⟨rfl, hb1⟩))
    refine (HTO.out _ hb1).mono ?_
    rintro e w5 ⟨rfl, hm5, hb5⟩
    have HB5 : Hid (Below w.heap.size w w5) := Below.on hb1 hb5
    have cv5 := HCV.out w5 HB5.out
    have HA5 := HDF.out w5 _ hm5
    have HSZ : Hid (w.heap.size ≤ _) := hb1.size
    clear hm5 hb5 hb1 HTO HDF HCV
    go_wp2_with fail
    refine HA5.mono ?_
    rintro e w6 ⟨rfl, ⟨N6, _, hm6⟩, hb6, _⟩
    have HB6 : Hid (Below w.heap.size w w6) := HB5.out.trans (hb6.mono HSZ.out)
    clear hb6 cv5 HA5
    by_cases hc : defCode cs (k, n, xs) = 0
    · have HO6 := HOP.out w6 _ N6 hc hm6
      have HR : Hid (addR cs k n xs = (putO cs (k, n, xs), 0)) := by show _ = _; rw [HRES.out, if_neg (by rw [hc]; simp)]
      have HUN : Hid (∀ ds, Asc ds → (∀ x, x ∈ ds ↔ x ∈ addT cs (k, n, xs)) → ds = putO cs (k, n, xs)) := HUNI.out hc
      rw [hc]
      clear hm6 HOP HRES HUNI hc
      go_wp2_with fail
      refine HO6.mono ?_
      rintro e w7 ⟨p7, n7, c7, ds, rfl, hown7, hasc7, hmem7, hb7⟩
      have HF : Hid (AddE w (addR cs k n xs) (.returned (.tuple #[.slice p7 n7 c7, .int .i64 0])) w7) := ⟨p7, n7, c7, by rw [HR.out], by rw [HR.out]; rw [HUN.out ds hasc7 hmem7] at hown7; exact hown7.mono HB6.out.size, Below.on HB6.out hb7⟩
      clear hown7 hasc7 hmem7 hb7 HO6
      go_wp2_with fail
      go_ret2
      exact HF.out
    · have HF : Hid (AddE w (addR cs k n xs) (.returned (.tuple #[.slice none 0 0, .int .i64 (defCode cs (k, n, xs))])) w6) := AddE.code (by rw [HRES.out, if_pos hc]) HB6.out
      obtain ⟨ac, eac⟩ : ∃ a, a = defCode cs (k, n, xs) := ⟨_, rfl⟩
      rw [← eac] at HF hc ⊢
      have hc' : (ac != 0) = true := by simpa using hc
      clear hm6 HOP HRES HUNI eac
      go_wp2_with fail
      go_ret2
      exact HF.out

end Go.Proofs.YtbfhpnacoigfkaaDoor
