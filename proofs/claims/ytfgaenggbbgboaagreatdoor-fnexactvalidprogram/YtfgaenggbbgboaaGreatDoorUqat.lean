/- Texts of RegD, VpG. Own work of the verifier. -/
import Derived.Test.YtfgaenggbbgboaaGreatDoorUqas
import Derived.Test.YtfgaenggbbgboaaGreatDoorUqaj
import Derived.WideKeyEntry
namespace Go.Proofs.YtfgaenggbbgboaaGreatDoor
open Go
def lastB (md : Region.Mode) (ops : Array Oper) (p : Nat) : Bool :=
  decide (ops.size = p + 1) && ((List.range ops.size).all fun i => ((ops[i]?).map (·.after.all fun e => !Region.binds md e || decide (e.on < i))).getD true) && ((List.range p).all fun j => ((ops[p]?).map (·.after.any fun e => Region.binds md e && decide (e.on = j))).getD false)
section
variable {P : Program} {ops : Array Oper} {Q : Exit → Act → World → Prop} {md : Region.Mode} {S : World → Prop}
theorem lastB_parts {p : Nat} (hb : lastB md ops p = true) : ops.size = p + 1 ∧ (∀ i o, ops[i]? = some o → ∀ e ∈ o.after, Region.binds md e = true → e.on < i) ∧ ∀ o, ops[p]? = some o → ∀ j, j < p → ∃ e ∈ o.after, Region.binds md e = true ∧ e.on = j := by
  simp only [lastB, Bool.and_eq_true, decide_eq_true_eq] at hb
  obtain ⟨⟨h1, h2⟩, h3⟩ := hb
  refine ⟨h1, fun i o ho e he hbd => ?_, fun o ho j hj => ?_⟩
  · have hi : i < ops.size := (Array.getElem?_eq_some_iff.1 ho).1
    have := List.all_eq_true.1 h2 i (by simpa using hi)
    rw [ho] at this
    simp only [Option.map_some, Option.getD_some, Array.all_eq_true'] at this
    have := this e he
    rw [hbd] at this
    simpa using this
  · have := List.all_eq_true.1 h3 j (by simpa using hj)
    rw [ho] at this
    simp only [Option.map_some, Option.getD_some, Array.any_eq_true'] at this
    obtain ⟨e, he, h⟩ := this
    rw [Bool.and_eq_true, decide_eq_true_eq] at h
    exact ⟨e, he, h.1, h.2⟩
theorem getD_two {L : Array Bool} {i : Nat} (hi : i < L.size) : L.getD i true = L.getD i false := by simp [hi]
theorem ready_some {p : Nat} (hb : lastB md ops p = true) {L : Array Bool} (hs : L.size = ops.size) : ∀ (k : Nat), k < ops.size → L.getD k true = false → ∃ i, i ∈ Region.ready md ops L := by
  obtain ⟨h1, h2, h3⟩ := lastB_parts hb
  intro k
  induction k using Nat.strongRecOn with
  | ind k ih =>
    intro hk hu
    obtain ⟨o, ho⟩ : ∃ o, ops[k]? = some o := ⟨ops[k], by simp [hk]⟩
    by_cases hall : ∀ e ∈ o.after, Region.binds md e = true → L.getD e.on false = true
    · exact ⟨k, mem_ready.2 ⟨hu, o, ho, hall⟩⟩
    · obtain ⟨e, he⟩ := Classical.not_forall.1 hall
      obtain ⟨he1, he2⟩ := Classical.not_imp.1 he
      obtain ⟨hbd, hf⟩ := Classical.not_imp.1 he2
      have hlt := h2 k o ho e he1 hbd
      refine ih e.on hlt (by omega) ?_
      rw [getD_two (by omega)]
      simpa using hf
theorem wpAny_last {p : Nat} (hb : lastB md ops p = true) : ∀ (f : Nat) (L : Array Bool) (a : Act) (w : World), L.size = ops.size → L.getD p true = false →
    wpAnyH P md ops (RestQ Q (wpOp P ops Q p (Q .normal))) S f (L.setIfInBounds p true) a w → wpAny P md ops Q (f + 1) L a w := by
  obtain ⟨h1, h2, h3⟩ := lastB_parts hb
  have hlastR : ∀ (L : Array Bool), L.size = ops.size → p ∈ Region.ready md ops L → Region.ready md ops (L.setIfInBounds p true) = [] := fun L hs hp => by
    obtain ⟨_, o, ho, hall⟩ := mem_ready.1 hp
    rw [List.eq_nil_iff_forall_not_mem]
    intro i hi
    obtain ⟨hu, oi, hoi, _⟩ := mem_ready.1 hi
    have hil : i < ops.size := (Array.getElem?_eq_some_iff.1 hoi).1
    by_cases e : i = p
    · subst e
      have hl2 : i < L.size := by omega
      simp [hl2] at hu
    · rw [getD_set_ne true (fun h => e h.symm)] at hu
      obtain ⟨e', he', hbd, hon⟩ := h3 o ho i (by omega)
      have := hall e' he' hbd
      rw [hon, ← getD_two (by omega), hu] at this
      cases this
  have hlast : ∀ (f : Nat) (L : Array Bool) (a : Act) (w : World), L.size = ops.size → p ∈ Region.ready md ops L → wpAnyH P md ops (RestQ Q (wpOp P ops Q p (Q .normal))) S f (L.setIfInBounds p true) a w → wpOp P ops Q p (wpAny P md ops Q f (L.setIfInBounds p true)) a w := fun f L a w hs hp H => by
    have hr := hlastR L hs hp
    have hR : wpOp P ops Q p (Q .normal) a w := by
      cases f with
      | zero => exact H.2
      | succ f => exact H.1 hr
    exact wpOp_mono (fun a' w' h => wpAny_done hr h f) hR
  intro f
  induction f with
  | zero =>
    intro L a w hs hp H
    refine ⟨fun h0 => ?_, fun i hi => ?_⟩
    · obtain ⟨i, hi⟩ := ready_some hb hs p (by omega) hp
      rw [h0] at hi; cases hi
    · by_cases e : i = p
      · subst e; exact hlast 0 L a w hs hi H
      · have := ready_mono hi e
        rw [H.1] at this; cases this
  | succ f ih =>
    intro L a w hs hp H
    refine ⟨fun h0 => ?_, fun i hi => ?_⟩
    · obtain ⟨i, hi⟩ := ready_some hb hs p (by omega) hp
      rw [h0] at hi; cases hi
    · by_cases e : i = p
      · subst e; exact hlast (f + 1) L a w hs hi H
      · refine wpOp_mono (fun a' w' h' => ?_) (wpOp_rest (H.2 i (ready_mono hi e)))
        refine ih (L.setIfInBounds i true) a' w' (by simpa using hs) (by rw [getD_set_ne true e]; exact hp) ?_
        have h9 := h'.2
        rw [Array.setIfInBounds_comm _ _ (fun x => e x.symm)] at h9
        exact h9
end
end Go.Proofs.YtfgaenggbbgboaaGreatDoor

namespace Go.Proofs.YtfgaenggbbgboaaGreatDoor
open Go Go.RowKit Go.Maps Go.ChangeMaps
set_option linter.unusedSimpArgs false
set_option linter.unusedVariables false
def allG (D : List (List Cel)) (j : Nat) : Prop := ∀ i, i < j → goB (D.getD i []) = true
theorem allG_all (D : List (List Cel)) : allG D D.length ↔ D.all goB = true := by
  rw [List.all_eq_true]
  constructor
  · intro h x hx
    obtain ⟨i, hi, rfl⟩ := List.getElem_of_mem hx
    have := h i hi
    rwa [List.getD, List.getElem?_eq_getElem hi] at this
  · intro h i hi
    rw [List.getD, List.getElem?_eq_getElem hi]
    exact h _ (List.getElem_mem hi)
set_option maxRecDepth 100000 in
theorem noGoal_any (q : Option Addr) (xs : List Cel) (a a2 : Addr) (w : World) (hl : xs.length ≤ 2000000) (hby : ∀ i, i < xs.length → Byte (xs.getD i Cel.none).2.2) (hc : CIn w q xs) (he : ErrAt w a a2) :
    Calls Tryz.prog 23 #[.slice q xs.length xs.length] w fun e w' => e = .returned (.bool (!goB xs)) ∧ Below w.heap.size w w' := by
  have HV := implValid_any q xs.length xs w (by omega) hc
  by_cases hv : validB xs = true
  · obtain ⟨c, k, ex, hok, hlx⟩ := tree_of hby hv
    have hcl : k.cells.length + 1 = xs.length := by rw [ex]; simp
    have HTE : Hid (∀ W, Below w.heap.size w W → Calls Tryz.prog 26 #[.slice q xs.length xs.length] W fun e w' => ∃ v, e = .returned v ∧ FoIn w' W.heap.size (.node c k .nil) [v] ∧ Below W.heap.size W w') := fun W hB => termOf_any c k q _ _ W hok (by omega) (Nat.le_refl _) (by omega) (by have := hc.below hB; rw [ex] at this; exact this)
    have HIN : Hid (∀ W v B, Below w.heap.size w W → FoIn W B (.node c k .nil) [v] → Calls Tryz.prog 25 #[v] W fun e w' => e = .returned (.bool (norB c k)) ∧ Below W.heap.size W w') := fun W v B hW hf => isNormal_any c k v B a a2 W W hok hf (Below.refl _ _) (by omega) (he.below hW)
    rw [hv] at HV
    rw [goB_of hv ex hok]
    generalize norB c k = R at HIN ⊢
    obtain ⟨n, en⟩ : ∃ n, n = xs.length := ⟨_, rfl⟩
    rw [← en] at HV HTE ⊢
    clear hl hby hc he hv ex hok hlx hcl en
    go_enter Tryz.func23, Tryz.ntmps23
    go_wp2_with fail
    refine HV.mono ?_
    rintro e w1 ⟨rfl, hb1⟩
    have HB1 : Hid (Below w.heap.size w w1) := hb1
    have HT1 := HTE.out w1 hb1
    clear hb1 HV
    go_wp2_with fail
    refine HT1.mono ?_
    rintro e w2 ⟨v2, rfl, hf2, hb2⟩
    have HB2 : Hid (Below w.heap.size w w2) := Below.on HB1.out hb2
    have HI2 := HIN.out w2 v2 _ HB2.out hf2
    obtain ⟨t2, y2, rfl⟩ := hf2.iface
    clear hb2 hf2 HT1
    go_wp2_with fail
    refine HI2.mono ?_
    rintro e w3 ⟨rfl, hb3⟩
    have HB3 : Hid (Below w.heap.size w w3) := Below.on HB2.out hb3
    clear hb3 HI2
    go_wp2_with fail
    go_ret
    exact ⟨rfl, HB3.out⟩
  · have hv' : validB xs = false := by simpa using hv
    rw [hv'] at HV
    rw [goB_bad hv']
    generalize xs.length = n at HV ⊢
    clear hl hby hc he hv hv'
    go_enter Tryz.func23, Tryz.ntmps23
    go_wp2_with fail
    refine HV.mono ?_
    rintro e w1 ⟨rfl, hb1⟩
    have HB1 : Hid (Below w.heap.size w w1) := hb1
    clear hb1 HV
    go_wp2_with fail
    go_ret
    exact ⟨rfl, HB1.out⟩
set_option maxRecDepth 100000 in
set_option maxHeartbeats 1000000 in
theorem indexG_any (pd : Option Addr) (cd : Nat) (D : List (List Cel)) (a a2 : Addr) (w : World) (hD : CCT w pd D) (hsz : D.length + tll D ≤ 1048576) (hok : CCok D) (he : ErrAt w a a2) :
    Calls Tryz.prog 48 #[.slice pd D.length cd, .func (.func 23) #[] #[]] w fun e w' => ∃ r : Int, e = .returned (.int .i64 r) ∧ -1 ≤ r ∧ r ≤ 1048576 ∧ (r < 0 ↔ allG D D.length) ∧ Below w.heap.size w w' := by
  have HD : Hid (CCT w pd D ∧ D.length + tll D ≤ 1048576 ∧ CCok D ∧ ErrAt w a a2) := ⟨hD, hsz, hok, he⟩
  have hdl : D.length ≤ 1048576 := by omega
  obtain ⟨n, en⟩ : ∃ n, n = D.length := ⟨_, rfl⟩
  have EN : Hid (n = D.length) := en
  rw [← en] at hdl ⊢
  clear hD hsz hok he en
  go_enter Tryz.func48, Tryz.ntmps48
  go_wp2_with fail
  go_loopw [8] (fun i wr => ∃ (j : Nat), j ≤ n ∧ i = .int .i64 j ∧ Hid (allG D j) ∧ Hid (Below w.heap.size w wr)) (fun i _ => n - (intOf i).toNat)
  case atStart => exact ⟨0, Nat.zero_le _, rfl, fun i hi => by omega, Below.refl _ _⟩
  case round =>
    obtain ⟨j, hj, rfl, HA, HB⟩ := hrel
    by_cases hlt : j < n
    · have hjD : j < D.length := by have := EN.out; omega
      obtain ⟨b, o, epd, hcd⟩ := (HD.out.1.below HB.out).at (by omega)
      obtain ⟨q, c0, d1⟩ := hcd j hjD
      subst epd
      have h9 := tll_at D j hjD
      have h8 := HD.out.2.1
      have HNT := noGoal_any q (D.getD j []) a a2 wr (by omega) (HD.out.2.2.1.2 j hjD).2.2 d1 (HD.out.2.2.2.below HB.out)
      obtain ⟨vb, evb⟩ : ∃ vb, vb = goB (D.getD j []) := ⟨_, rfl⟩
      have HVB : Hid (vb = goB (D.getD j [])) := evb
      rw [← evb] at HNT
      obtain ⟨l, el⟩ : ∃ l, l = (D.getD j []).length := ⟨_, rfl⟩
      rw [← el] at HNT c0
      clear d1 hcd evb el h9 h8
      cases vb with
      | true =>
        go_wp2_with fail
        refine HNT.mono ?_
        rintro e w1 ⟨rfl, hb⟩
        have HB1 : Hid (Below w.heap.size w w1) := Below.on HB.out hb
        clear hb HNT c0
        go_wp2_with fail
        go_roundw
        case rel => exact ⟨j + 1, by omega, by go_num, fun i hi => by
          rcases Nat.lt_or_ge i j with h | h
          · exact HA.out i h
          · have e : i = j := by omega
            rw [e]; exact HVB.out.symm, HB1⟩
        case measure => simp [intOf]; omega
      | false =>
        have HNO : Hid (¬ allG D D.length) := fun h => by have := h j hjD; rw [← HVB.out] at this; cases this
        go_wp2_with fail
        refine HNT.mono ?_
        rintro e w1 ⟨rfl, hb⟩
        have HB1 : Hid (Below w.heap.size w w1) := Below.on HB.out hb
        clear hb HNT c0
        go_wp2_with fail
        go_ret
        exact ⟨(j : Int), rfl, by omega, by omega, ⟨fun h => by omega, fun h => absurd (show allG D D.length by rw [← EN.out]; exact h) HNO.out⟩, HB1.out⟩
    · obtain rfl : j = n := by omega
      go_wp2_with fail
      go_ret
      exact ⟨-1, rfl, by omega, by omega, ⟨fun _ => HA.out, fun _ => by omega⟩, HB.out⟩
set_option maxRecDepth 100000 in
theorem contG_any (pd : Option Addr) (cd : Nat) (D : List (List Cel)) (a a2 : Addr) (w : World) (hD : CCT w pd D) (hsz : D.length + tll D ≤ 1048576) (hok : CCok D) (he : ErrAt w a a2) :
    Calls Tryz.prog 22 #[.slice pd D.length cd, .func (.func 23) #[] #[]] w fun e w' => e = .returned (.bool (!D.all goB)) ∧ Below w.heap.size w w' := by
  have HI := indexG_any pd cd D a a2 w hD hsz hok he
  have hdl : D.length ≤ 1048576 := by omega
  obtain ⟨R, eR⟩ : ∃ R, R = D.all goB := ⟨_, rfl⟩
  have hP : allG D D.length ↔ R = true := by rw [eR]; exact allG_all D
  rw [hP] at HI
  rw [← eR]
  clear hD hsz hok he eR hP
  generalize D.length = n at HI hdl ⊢
  go_enter Tryz.func22, Tryz.ntmps22
  go_wp2_with fail
  refine HI.mono ?_
  rintro e w1 ⟨r, rfl, h1, h2, h3, hb⟩
  have HB : Hid (Below w.heap.size w w1) := hb
  have HR : Hid (r < 0 ↔ R = true) := h3
  clear hb h3 HI
  by_cases hr : r < 0
  · have hd : decide ((0 : Int) ≤ r) = false := by simp; omega
    go_wp2_with fail
    go_ret
    refine ⟨?_, HB.out⟩
    rw [HR.out.1 hr]
    simp [hd]
  · have hd : decide ((0 : Int) ≤ r) = true := by simp; omega
    go_wp2_with fail
    go_ret
    refine ⟨?_, HB.out⟩
    have e : R = false := by cases R with
      | false => rfl
      | true => exact absurd (HR.out.2 rfl) (by omega)
    rw [e]
    simp [hd]
def NmIn (w : World) (b N : Nat) (T : Fun → Option Value) : Prop := ∃ D : DataW Value, w.ownsMap Tryz.prog 52 heldN b N D ∧
  ∀ f, okN f → match T f with
    | none => has D (fk f) = false ∧ ∀ z, D.atKey (fk f) z = z
    | some K => has D (fk f) = true ∧ ∀ z, D.atKey (fk f) z = .held K
theorem NmIn.lt {w : World} {b N : Nat} {T : Fun → Option Value} (h : NmIn w b N T) : b < w.heap.size := by obtain ⟨D, h, _⟩ := h; exact h.lt
theorem NmIn.of {w w' : World} {b N : Nat} {T : Fun → Option Value} (h : NmIn w b N T) (hb : w'.heap[b]? = w.heap[b]?) : NmIn w' b N T := by
  obtain ⟨D, ⟨es, clock, h1, r⟩, h2⟩ := h
  exact ⟨D, ⟨es, clock, hb.trans h1, r⟩, h2⟩
theorem NmIn.below {w w' : World} {b N : Nat} {T : Fun → Option Value} (h : NmIn w b N T) (hb : Below w.heap.size w w') : NmIn w' b N T := h.of (hb.block _ h.lt)
theorem NmIn.made (w : World) : NmIn (w.alloc (.map #[] 0)) w.heap.size 0 (fun _ => none) := ⟨_, World.ownsMap_made _ _ _ _, fun f _ => ⟨rfl, fun z => rfl⟩⟩
theorem zeroIn (w : World) : (zeroValue 3).run Tryz.prog w = .ok (.int .i64 0) w := by kernel_rfl
theorem NmIn.lookI {w : World} {b N : Nat} {T : Fun → Option Value} (h : NmIn w b N T) (f : Fun) (hf : okN f) :
    (Instr.lookup 50 (.map (some b)) (.agg #[.string f.1, .int .i64 f.2]) false).run Tryz.prog w = .ok ((T f).getD (.int .i64 0)) w := by
  obtain ⟨D, hown, hT⟩ := h
  obtain ⟨v, ps, hrun, hv⟩ := hown.lookup lawFun Tryz.underlying50 (zeroIn w) (zd := .held (.int .i64 0)) (zp := []) rfl (keyFunN f hf)
  have h1 := hT f hf
  simp only [heldN, Option.some.injEq, Prod.mk.injEq] at hv
  have hv := hv.1
  cases e : T f with
  | none =>
    rw [e] at h1
    rw [h1.2] at hv
    rw [hrun]
    cases hv
    rfl
  | some c =>
    rw [e] at h1
    rw [h1.2] at hv
    rw [hrun]
    cases hv
    rfl
theorem NmIn.putI {w : World} {b N : Nat} {T : Fun → Option Value} (h : NmIn w b N T) (hN : N ≤ 1000000) (f : Fun) (hf : okN f) (K : Value) :
    ∃ w', (Instr.mapUpdate 50 (.map (some b)) (.agg #[.string f.1, .int .i64 f.2]) K).run Tryz.prog w = .ok () w' ∧ NmIn w' b (N + 1) (fun g => if g = f then some K else T g) ∧ w.grownBy w' (some b) := by
  obtain ⟨D, hown, hT⟩ := h
  have hown0 := hown
  obtain ⟨es, clock, hb, _⟩ := hown
  obtain ⟨w', hrun, hown', hg⟩ := hown0.update lawFun Tryz.underlying50 (by unfold maxLen; omega) (keyFunN f hf) (show heldN K = some (.held _, []) from rfl)
  have hm := hown0.isMap
  have hkl : WideAt.IsKeyLit (fk f) := trivial
  refine ⟨w', hrun, ⟨_, hown', fun g hgk => ?_⟩, hg⟩
  by_cases e : g = f
  · subst e
    simp only [if_true]
    exact ⟨has_put_same hm hkl _, fun z => atKey_put_same hm hkl _ z⟩
  · simp only [if_neg e]
    have hne : fk g ≠ fk f := fun e' => e (fk_injN hgk hf e')
    have h1 := hT g hgk
    cases hTg : T g with
    | none =>
      rw [hTg] at h1
      exact ⟨by rw [has_put_other hne]; exact h1.1, fun z => by rw [atKey_put_other hne]; exact h1.2 z⟩
    | some c' =>
      rw [hTg] at h1
      exact ⟨by rw [has_put_other hne]; exact h1.1, fun z => by rw [atKey_put_other hne]; exact h1.2 z⟩
set_option maxRecDepth 100000 in
theorem NmIn.bump {w : World} {b N : Nat} {T : Fun → Option Value} (h : NmIn w b N T) (hN : N ≤ 1000000) (f : Fun) (hf : okN f) :
    ∃ (v0 : Value) (st : Nat) (W1 : World), (Instr.mapEntry 50 (.map (some b)) (.agg #[.string f.1, .int .i64 f.2])).run Tryz.prog w = .ok (.tuple #[v0, goInt st]) W1 ∧ w.grownBy W1 (some b) ∧
      ∀ K, ∃ W2, (Instr.entryStore 50 (.map (some b)) (goInt st) K).run Tryz.prog W1 = .ok () W2 ∧ NmIn W2 b (N + 1) (fun g => if g = f then some K else T g) ∧ w.grownBy W2 (some b) := by
  have h0 := h
  obtain ⟨D, hown, hT⟩ := h
  obtain ⟨es, clock, hb, F, _⟩ := hown
  obtain ⟨v0, st, es1, clock1, hrun, _, hst⟩ := WideElems.entry_then_store lawFunK Tryz.underlying50 zeroIn hb F (keyFunN f hf)
  refine ⟨v0, st, _, hrun, ⟨rfl, rfl, rfl, by simp [setBlock], fun i _ hi => heap_setBlock_other hb _ (fun e => hi (by rw [e]))⟩, fun K => ?_⟩
  obtain ⟨es', clock', hr1, hr2⟩ := hst (setBlock w b (.map es1 clock1)) K (heap_setBlock_same hb _)
  obtain ⟨w', hr3, hru, hg⟩ := h0.putI hN f hf K
  have e1 : setBlock (setBlock w b (.map es1 clock1)) b (.map es' clock') = setBlock w b (.map es' clock') := by simp [setBlock]
  have e2 : w' = setBlock w b (.map es' clock') := by
    rw [hr2] at hr3
    injection hr3 with _ h9
    exact h9.symm
  rw [e1] at hr1
  exact ⟨_, hr1, by rw [← e2]; exact hru, by rw [← e2]; exact hg⟩
set_option maxRecDepth 100000 in
theorem NmIn.entryLook {w : World} {b N : Nat} {T : Fun → Option Value} (h : NmIn w b N T) (hN : N ≤ 1000000) (f : Fun) (hf : okN f) {r : Value} {W1 : World} (hrun : (Instr.mapEntry 50 (.map (some b)) (.agg #[.string f.1, .int .i64 f.2])).run Tryz.prog w = .ok r W1) :
    (Instr.lookup 50 (.map (some b)) (.agg #[.string f.1, .int .i64 f.2]) false).run Tryz.prog W1 = .ok ((T f).getD (.int .i64 0)) W1 := by
  have h0 := h
  obtain ⟨D, hown, hT⟩ := h
  obtain ⟨es, clock, hb, F, _⟩ := hown
  have hkey := keyFunN f hf
  generalize hK : (Value.agg #[.string f.1, .int .i64 f.2]) = key at hkey hrun ⊢
  rcases lawFunK.find w hkey es.toList F.keys with ⟨h1, h2⟩ | ⟨j, e0, h1, h2, h3⟩
  · have hr : (Instr.mapEntry 50 (.map (some b)) key).run Tryz.prog w = .ok (.tuple #[.int .i64 0, goInt clock]) (setBlock w b (.map (es.push ⟨key, .int .i64 0, clock⟩) (clock + 1))) := by
      simp [Instr.mapEntry, run_underlying Tryz.underlying50, MapKept.run_getObj_map hb, lawFunK.check w false hkey, h1, zeroIn, MapKept.run_setObj_map _ hb, Result.andThen, setBlock]
    have hu : (Instr.mapUpdate 50 (.map (some b)) key (.int .i64 0)).run Tryz.prog w = .ok () (setBlock w b (.map (es.push ⟨key, .int .i64 0, clock⟩) (clock + 1))) := by
      simp [Instr.mapUpdate, run_underlying Tryz.underlying50, MapKept.run_getObj_map hb, lawFunK.check w false hkey, h1, MapKept.run_setObj_map _ hb, Result.andThen, setBlock]
    obtain ⟨w', hr3, hru, _⟩ := h0.putI hN f hf (.int .i64 0)
    rw [hK] at hr3
    have e2 : w' = W1 := by
      rw [hu] at hr3
      rw [hr] at hrun
      injection hr3 with _ h9
      injection hrun with _ h8
      rw [← h9, ← h8]
    subst e2
    have hl := hru.lookI f hf
    rw [hK] at hl
    rw [hl]
    have hl0 := h0.lookI f hf
    rw [hK] at hl0
    have hz : (Instr.lookup 50 (.map (some b)) key false).run Tryz.prog w = .ok (.int .i64 0) w := by
      simp [Instr.lookup, run_underlying Tryz.underlying50, MapKept.run_getObj_map hb, lawFunK.check w es.isEmpty hkey, h1, zeroIn, Result.andThen]
    rw [hz] at hl0
    injection hl0 with h7
    simp only [if_true]
    rw [← h7]
    rfl
  · have hj : es[j]? = some e0 := by simpa using h2
    have hsame : es.modify j (fun e => { e with key := key }) = es := by
      apply Array.ext'
      rw [Array.toList_modify, modify_eq_set _ _ _ _ h2]
      have : ({ e0 with key := key } : MapEntry) = e0 := by rw [← h3]
      rw [this]
      exact WideElems.set_self _ _ _ h2
    have hr : (Instr.mapEntry 50 (.map (some b)) key).run Tryz.prog w = .ok (.tuple #[e0.val, goInt e0.born]) (setBlock w b (.map es clock)) := by
      simp [Instr.mapEntry, run_underlying Tryz.underlying50, MapKept.run_getObj_map hb, lawFunK.check w false hkey, h1, hj, h3, lawFunK.stays w hkey, hsame, MapKept.run_setObj_map _ hb, Result.andThen, setBlock]
    have e2 : setBlock w b (.map es clock) = W1 := by
      rw [hr] at hrun
      injection hrun with _ h8
    have h9 : NmIn W1 b N T := h0.of (by rw [← e2, heap_setBlock_same hb, hb])
    have hl := h9.lookI f hf
    rw [hK] at hl
    exact hl
theorem op_skipV {P : Program} {ops : Array Oper} {Q : Exit → Act → World → Prop} {i : Nat} {o : Oper} {a : Act} {w w' : World} {K : Act → World → Prop} (hi : ops[i]? = some o) (hg : o.guard = none) (hd : o.dst = none) (hr : (execOp a.eval o).run P w = .ok .skip w') (h : K a w') : wpOp P ops Q i K a w := by
  unfold wpOp
  have hw : Region.wanted o (yielded ops a.tmps) = true := by simp [Region.wanted, hg]
  simp only [hi, hw, if_true]
  refine .inl ?_
  unfold Oper.wp
  rw [hr]
  simpa [Oper.upon, hd, Act.put] using h
theorem rest_skipV {P : Program} {ops : Array Oper} {Q : Exit → Act → World → Prop} {i : Nat} {o : Oper} {a : Act} {w w' : World} (hi : ops[i]? = some o) (hg : o.guard = none) (hd : o.dst = none) (hr : (execOp a.eval o).run P w = .ok .skip w') (h : Q .normal a w') : RestQ Q (wpOp P ops Q i (Q .normal)) .normal a w := op_skipV hi hg hd hr h
end Go.Proofs.YtfgaenggbbgboaaGreatDoor

