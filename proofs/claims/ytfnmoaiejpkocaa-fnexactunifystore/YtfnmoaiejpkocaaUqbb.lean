/- Texts of UfL, RegE, UfN. Own work of the verifier. -/
import Derived.Test.YtfnmoaiejpkocaaUqba
import Derived.Test.YtfnmoaiejpkocaaUqav
import Derived.Test.YtfnmoaiejpkocaaUqao
namespace Go.Proofs.Ytfnmoaiejpkocaa
open Go Go.RowKit Go.Maps
set_option linter.unusedVariables false

/-- What match leaves. -/
def MatOut (U : (USt × Int) × List (Cel × Cel)) (B h L m lk N n : Nat) (ps : List (Cel × Cel)) (w : World) (e : Ending) (w' : World) : Prop :=
  e = .returned (.int .i64 U.1.2) ∧ (∃ (lk' N' : Nat) (mk' : Nat → Nat), HeapO w' h U.1.1.1 U.1.1.2 m lk' ∧ SMap w' m N' mk' ∧ (∀ o, mk' o ≤ lk') ∧ lk' ≤ lk + 1 ∧ N' ≤ N + n) ∧ (U.1.2 = 0 → StkP B w' L (ps ++ U.2.reverse)) ∧ Below m w w'
theorem SMap.noCells {w : World} {m N : Nat} {mk : Nat → Nat} (h : SMap w m N mk) : ∀ cs t f, w.heap[m]? ≠ some (.cells cs t f) := fun cs t f e => by
  obtain ⟨D, ⟨es, clock, h1, r⟩, h2⟩ := h
  rw [h1] at e
  cases e
theorem HeapO.isHeap {w : World} {h : Nat} {xs : List Cel} {tr : List Int} {m : Nat} {lk : Int} (H : HeapO w h xs tr m lk) : ∃ cs, w.heap[h]? = some (.cells cs 93) := by
  obtain ⟨_, _, _, _, h0, _⟩ := H
  exact ⟨_, h0⟩

set_option maxHeartbeats 1000000 in
set_option maxRecDepth 100000 in
theorem match_any (B h L m lk N : Nat) (x y : Cel) (st : USt) (ps : List (Cel × Cel)) (mk : Nat → Nat) (w : World) (hf : Fit st) (hx : WOk st.1 x) (hy : WOk st.1 y) (hox : onB st.1 x = false) (hoy : onB st.1 y = false) (hl : ps.length ≤ 900000) (hlk : lk ≤ 1000000) (hN : N + st.1.length ≤ 1000000000000) (hmk : ∀ o, mk o ≤ lk) (hmB : m ≤ B) (H : HeapO w h st.1 st.2 m lk) (hm : SMap w m N mk) (HS : StkP B w L ps) :
    Calls Try.prog 93 #[.pointer (some ⟨h, 0, none⟩), wv x, wv y, .pointer (some ⟨L, 0, none⟩)] w (MatOut (uStep st x y) B h L m lk N st.1.length ps w) := by
  obtain ⟨i1x, _, _⟩ := isW x hx.1.knd
  obtain ⟨i1y, _, _⟩ := isW y hy.1.knd
  -- binding, either way round
  have HBND : Hid (∀ (aN : Nat) (Z : Cel), varB st.1 aN = true → WOk st.1 Z → ¬ (Z.1 = 0 ∧ Z.2.1 = aN) → uStep st x y = (bndU st aN Z, []) → Calls Try.prog 65 #[.pointer (some ⟨h, 0, none⟩), .int .i64 (aN : Int), wv Z] w fun e w' => ∃ code, e = .returned (.int .i64 code) ∧ MatOut (uStep st x y) B h L m lk N st.1.length ps w (.returned (.int .i64 code)) w') := fun aN Z hv hz hne hU => by
    obtain ⟨_, v2, _, _⟩ := varB_at hv
    refine (bindF_any h m lk N aN st.1 st.2 mk Z w hf.1.shp (by omega) hlk hN hf.2.2 hz.1 hne hmk H hm).mono fun e w' ⟨he, hb, hh, hfr⟩ => ⟨_, he, ?_⟩
    rw [hU]
    exact ⟨rfl, hh, fun _ => by simpa using HS.frI hfr H.isHeap hm.noCells, hb⟩
  by_cases q0 : x.1 = 0
  · have hvx := follow_ref q0 hox
    obtain ⟨v1, v2, _, _⟩ := varB_at hvx
    have heq := fun W => eqW_any W (nw_of hx) (nw_of hy)
    obtain ⟨aN, eaN⟩ : ∃ k : Nat, x.2.1 = k := ⟨x.2.1.toNat, by omega⟩
    rw [eaN] at hvx
    simp only [q0, if_true, decide_true, eaN] at i1x
    have hxt := wok_text hx (.inl q0)
    by_cases qs : y.1 = 0 ∧ y.2.1 = x.2.1
    · have hxy : x = y := by
        have hyt := wok_text hy (.inl qs.1)
        obtain ⟨x0, x1, xt⟩ := x
        obtain ⟨y0, y1, yt⟩ := y
        simp only at q0 qs hxt hyt
        rw [hxt, hyt, q0, qs.1, qs.2]
      have HR : Hid (MatOut (uStep st x y) B h L m lk N st.1.length ps w (.returned (.int .i64 0)) w) := by
        rw [us_same q0 qs]
        exact ⟨rfl, ⟨lk, N, mk, H, hm, hmk, by omega, by omega⟩, fun _ => by simpa using HS, Below.refl _ _⟩
      rw [decide_eq_true hxy] at heq
      generalize uStep st x y = U at HR ⊢
      obtain ⟨tx, ux, ex⟩ := wv_iface x
      obtain ⟨ty, uy, ey⟩ := wv_iface y
      rw [ex] at i1x heq ⊢
      rw [ey] at heq ⊢
      clear hf hx hy hox hoy hN hmk H hm HS q0 qs HBND hvx v1 v2 hxt hxy ex ey i1y eaN
      go_enter Try.func93, Try.ntmps93
      go_wp2
      go_ret
      exact HR.out
    · have hxy : x ≠ y := fun e => qs ⟨by rw [← e]; exact q0, by rw [← e]⟩
      have hcall := HBND.out aN y hvx hy (fun hh => qs ⟨hh.1, by rw [eaN]; exact hh.2⟩) (by rw [us_bx q0 qs, eaN]; rfl)
      rw [decide_eq_false hxy] at heq
      generalize uStep st x y = U at hcall ⊢
      obtain ⟨tx, ux, ex⟩ := wv_iface x
      obtain ⟨ty, uy, ey⟩ := wv_iface y
      rw [ex] at i1x heq ⊢
      rw [ey] at heq hcall ⊢
      clear hf hx hy hox hoy hN hmk H hm HS q0 qs HBND hvx v1 v2 hxt hxy ex ey i1y eaN
      go_enter Try.func93, Try.ntmps93
      go_wp2_with fail
      refine hcall.mono ?_
      rintro e w7 ⟨code, rfl, hout⟩
      have HR : Hid (MatOut U B h L m lk N st.1.length ps w (.returned (.int .i64 code)) w7) := hout
      clear hout hcall
      go_wp2
      go_ret
      exact HR.out
  · simp only [q0, if_false, decide_false] at i1x
    by_cases qy : y.1 = 0
    · have hvy := follow_ref qy hoy
      obtain ⟨v1, v2, _, _⟩ := varB_at hvy
      obtain ⟨bN, ebN⟩ : ∃ k : Nat, y.2.1 = k := ⟨y.2.1.toNat, by omega⟩
      rw [ebN] at hvy
      simp only [qy, if_true, decide_true, ebN] at i1y
      have hcall := HBND.out bN x hvy hx (fun hh => q0 hh.1) (by rw [us_by q0 qy, ebN]; rfl)
      generalize uStep st x y = U at hcall ⊢
      obtain ⟨tx, ux, ex⟩ := wv_iface x
      obtain ⟨ty, uy, ey⟩ := wv_iface y
      rw [ex] at i1x hcall ⊢
      rw [ey] at i1y ⊢
      clear hf hx hy hox hoy hN hmk H hm HS q0 qy HBND hvy v1 v2 ex ey ebN
      go_enter Try.func93, Try.ntmps93
      go_wp2_with fail
      refine hcall.mono ?_
      rintro e w7 ⟨code, rfl, hout⟩
      have HR : Hid (MatOut U B h L m lk N st.1.length ps w (.returned (.int .i64 code)) w7) := hout
      clear hout hcall
      go_wp2
      go_ret
      exact HR.out
    · simp only [qy, if_false, decide_false] at i1y
      have hcall := open_any B h L m lk x y st ps w hf hx hy q0 qy hl H HS
      have HFIN : Hid (∀ code w', (code = 0 ∨ code = 4) → (uStep st x y).1.2 = code → ((uStep st x y).1.2 = 0 → StkP B w' L (ps ++ (uStep st x y).2.reverse)) → FrS B w w' → MatOut (uStep st x y) B h L m lk N st.1.length ps w (.returned (.int .i64 code)) w') := fun code w' hcc hc hs' hfr => by
        have hst : (uStep st x y).1.1 = st := by
          unfold uStep
          rw [if_neg q0, if_neg qy]
          split
          · split <;> rfl
          · split <;> rfl
        refine ⟨by rw [hc], ?_, hs', hfr.2.2.mono hmB⟩
        rw [hst]
        refine ⟨lk, N, mk, H.frS hfr, hm.of_block (hfr.2.1 m hm.lt (fun cs f e => hm.noCells _ _ _ e) (fun cs f e => hm.noCells _ _ _ e)), hmk, by omega, by omega⟩
      have HCODE : Hid ((uStep st x y).1.2 = 0 ∨ (uStep st x y).1.2 = 4) := by
        show _ ∨ _
        unfold uStep
        rw [if_neg q0, if_neg qy]
        split
        · split
          · exact .inl rfl
          · exact .inr rfl
        · split
          · exact .inl rfl
          · exact .inr rfl
      generalize uStep st x y = U at hcall HFIN HCODE ⊢
      obtain ⟨tx, ux, ex⟩ := wv_iface x
      obtain ⟨ty, uy, ey⟩ := wv_iface y
      rw [ex] at i1x hcall ⊢
      rw [ey] at i1y hcall ⊢
      clear hf hx hy hox hoy hN hmk H hm HS q0 qy HBND ex ey
      go_enter Try.func93, Try.ntmps93
      go_wp2_with fail
      refine hcall.mono ?_
      rintro e w7 ⟨rfl, hs7, hf7⟩
      rcases HCODE.out with hc | hc
      · have HR : Hid (MatOut U B h L m lk N st.1.length ps w (.returned (.int .i64 0)) w7) := HFIN.out 0 w7 (.inl rfl) hc hs7 hf7
        have hcd : decide (U.1.2 = 0) = true := by simp [hc]
        rw [hcd]
        clear hs7 hf7 hcall HFIN HCODE hc hcd
        go_wp2
        go_ret
        exact HR.out
      · have HR : Hid (MatOut U B h L m lk N st.1.length ps w (.returned (.int .i64 4)) w7) := HFIN.out 4 w7 (.inr rfl) hc hs7 hf7
        have hcd : decide (U.1.2 = 0) = false := by simp [hc]
        rw [hcd]
        clear hs7 hf7 hcall HFIN HCODE hc hcd
        go_wp2
        go_ret
        exact HR.out

end Go.Proofs.Ytfnmoaiejpkocaa

namespace Go.Proofs.Ytfnmoaiejpkocaa
open Go
/-- All that is ahead of p leads to p; p + 1 waits for p; nobody waits for a later one. -/
def tailB (md : Region.Mode) (ops : Array Oper) (p : Nat) : Bool :=
  decide (ops.size = p + 2) && ((List.range ops.size).all fun i => ((ops[i]?).map (·.after.all fun e => !Region.binds md e || decide (e.on < i))).getD true) &&
  ((List.range p).all fun j => (List.range (p + 1)).any fun i => decide (j < i) && ((ops[i]?).map (·.after.any fun e => Region.binds md e && decide (e.on = j))).getD false) &&
  ((ops[p + 1]?).map (·.after.any fun e => Region.binds md e && decide (e.on = p))).getD false
section
variable {P : Program} {ops : Array Oper} {Q : Exit → Act → World → Prop} {md : Region.Mode} {S : World → Prop}
theorem tailB_parts {p : Nat} (hb : tailB md ops p = true) : ops.size = p + 2 ∧ (∀ i o, ops[i]? = some o → ∀ e ∈ o.after, Region.binds md e = true → e.on < i) ∧ (∀ j, j < p → ∃ i o, j < i ∧ i ≤ p ∧ ops[i]? = some o ∧ ∃ e ∈ o.after, Region.binds md e = true ∧ e.on = j) ∧ ∃ o, ops[p + 1]? = some o ∧ ∃ e ∈ o.after, Region.binds md e = true ∧ e.on = p := by
  simp only [tailB, Bool.and_eq_true, decide_eq_true_eq] at hb
  obtain ⟨⟨⟨h1, h2⟩, h3⟩, h4⟩ := hb
  have hany : ∀ (i j : Nat), ((ops[i]?).map (·.after.any fun e => Region.binds md e && decide (e.on = j))).getD false = true → ∃ o, ops[i]? = some o ∧ ∃ e ∈ o.after, Region.binds md e = true ∧ e.on = j := fun i j h => by
    cases ho : ops[i]? with
    | none => rw [ho] at h; cases h
    | some o =>
      rw [ho] at h
      simp only [Option.map_some, Option.getD_some, Array.any_eq_true'] at h
      obtain ⟨e, he, h⟩ := h
      rw [Bool.and_eq_true, decide_eq_true_eq] at h
      exact ⟨o, rfl, e, he, h.1, h.2⟩
  refine ⟨h1, fun i o ho e he hbd => ?_, fun j hj => ?_, hany _ _ h4⟩
  · have hi : i < ops.size := (Array.getElem?_eq_some_iff.1 ho).1
    have := List.all_eq_true.1 h2 i (by simpa using hi)
    rw [ho] at this
    simp only [Option.map_some, Option.getD_some, Array.all_eq_true'] at this
    have := this e he
    rw [hbd] at this
    simpa using this
  · have := List.all_eq_true.1 h3 j (by simpa using hj)
    rw [List.any_eq_true] at this
    obtain ⟨i, hi, h⟩ := this
    rw [Bool.and_eq_true, decide_eq_true_eq] at h
    obtain ⟨o, ho, he⟩ := hany _ _ h.2
    exact ⟨i, o, h.1, by have := List.mem_range.1 hi; omega, ho, he⟩
/-- What is listed has listed what it waits for. -/
def Clo (md : Region.Mode) (ops : Array Oper) (L : Array Bool) : Prop := ∀ i o, ops[i]? = some o → L.getD i false = true → ∀ e ∈ o.after, Region.binds md e = true → L.getD e.on false = true
theorem clo_start (md : Region.Mode) (ops : Array Oper) (n : Nat) : Clo md ops (Array.replicate n false) := fun i o _ h => by
  exfalso
  by_cases hi : i < n <;> simp [hi] at h
theorem Clo.set {L : Array Bool} (h : Clo md ops L) {i : Nat} (hi : i ∈ Region.ready md ops L) : Clo md ops (L.setIfInBounds i true) := fun j o ho hj e he hbd => by
  by_cases e1 : i = j
  · subst e1
    obtain ⟨_, o', ho', hall⟩ := mem_ready.1 hi
    rw [ho] at ho'
    cases ho'
    exact getD_set_true (hall e he hbd)
  · rw [getD_set_ne false e1] at hj
    exact getD_set_true (h j o ho hj e he hbd)
/-- As long as one is not listed, one may come up. -/
theorem ready_some2 (h2 : ∀ i o, ops[i]? = some o → ∀ e ∈ o.after, Region.binds md e = true → e.on < i) {L : Array Bool} (hs : L.size = ops.size) : ∀ (k : Nat), k < ops.size → L.getD k true = false → ∃ i, i ∈ Region.ready md ops L := by
  intro k
  induction k using Nat.strongRecOn with
  | ind k ih =>
    intro hk hu
    obtain ⟨o, ho⟩ : ∃ o, ops[k]? = some o := ⟨ops[k], by simp [hk]⟩
    by_cases hall : ∀ e ∈ o.after, Region.binds md e = true → L.getD e.on false = true
    · exact ⟨k, mem_ready.2 ⟨hu, o, ho, hall⟩⟩
    · obtain ⟨e, he⟩ := Classical.not_forall.1 hall
      obtain ⟨he1, he2⟩ := Classical.not_imp.1 he
      obtain ⟨hbd, hf⟩ := Classical.not_imp.1 he2
      have hlt := h2 k o ho e he1 hbd
      refine ih e.on hlt (by omega) ?_
      rw [getD_two (by omega)]
      simpa using hf
/-- One step: p with p + 1 behind it, or another. -/
theorem wpAny_tail_step {p : Nat} (hb : tailB md ops p = true) {L : Array Bool} {a : Act} {w : World} (hs : L.size = ops.size) (hc : Clo md ops L) (hp : L.getD p true = false) (hq : L.getD (p + 1) true = false) (f : Nat)
    (H : wpAnyH P md ops (RestQ Q (wpOp P ops Q p (wpOp P ops Q (p + 1) (Q .normal)))) S f ((L.setIfInBounds p true).setIfInBounds (p + 1) true) a w)
    (hother : ∀ i, i ∈ Region.ready md ops L → i ≠ p → i ≠ p + 1 → i ∈ Region.ready md ops ((L.setIfInBounds p true).setIfInBounds (p + 1) true) → wpOp P ops Q i (wpAny P md ops Q (f + 1) (L.setIfInBounds i true)) a w) : wpAny P md ops Q (f + 2) L a w := by
  obtain ⟨h1, h2, h3, oq, hoq, eq, heq, hbq, honq⟩ := tailB_parts hb
  refine ⟨fun h0 => ?_, fun i hi => ?_⟩
  · obtain ⟨i, hi⟩ := ready_some2 h2 hs p (by omega) hp
    rw [h0] at hi; cases hi
  · have hiq : i ≠ p + 1 := fun e => by
      subst e
      obtain ⟨_, o, ho, hall⟩ := mem_ready.1 hi
      rw [hoq] at ho
      cases ho
      have := hall eq heq hbq
      rw [honq, ← getD_two (by omega), hp] at this
      cases this
    by_cases e : i = p
    · subst e
      -- all others are listed
      obtain ⟨_, oi, hoi, hall⟩ := mem_ready.1 hi
      have hlisted : ∀ d j, i - j ≤ d → j < i → L.getD j false = true := by
        intro d
        induction d with
        | zero => intro j hd hj; omega
        | succ d ihd =>
          intro j hd hj
          obtain ⟨k, ok, hk1, hk2, hok, e', he', hbd, hon⟩ := h3 j hj
          by_cases ek : k = i
          · subst ek
            rw [hoi] at hok
            cases hok
            rw [← hon]; exact hall e' he' hbd
          · rw [← hon]
            exact hc k ok hok (ihd k (by omega) (by omega)) e' he' hbd
      have hrL : Region.ready md ops ((L.setIfInBounds i true).setIfInBounds (i + 1) true) = [] := by
        rw [List.eq_nil_iff_forall_not_mem]
        intro j hj
        obtain ⟨hu, oj, hoj, _⟩ := mem_ready.1 hj
        have hjl : j < ops.size := (Array.getElem?_eq_some_iff.1 hoj).1
        by_cases e1 : i + 1 = j
        · subst e1
          have : i + 1 < L.size := by omega
          simp [this] at hu
        · rw [getD_set_ne true e1] at hu
          by_cases e2 : i = j
          · subst e2
            have : i < L.size := by omega
            simp [this] at hu
          · rw [getD_set_ne true e2, getD_two (by omega), hlisted (i - j) j (Nat.le_refl _) (by omega)] at hu
            cases hu
      have hR : wpOp P ops Q i (wpOp P ops Q (i + 1) (Q .normal)) a w := by
        cases f with
        | zero => exact H.2
        | succ f => exact H.1 hrL
      refine wpOp_mono (fun a' w' h' => ?_) hR
      refine ⟨fun h0 => ?_, fun j hj => ?_⟩
      · obtain ⟨k, hk⟩ := ready_some2 h2 (L := L.setIfInBounds i true) (by simpa using hs) (i + 1) (by omega) (by rw [getD_set_ne true (by omega)]; exact hq)
        rw [h0] at hk; cases hk
      · obtain rfl : j = i + 1 := by
          obtain ⟨hu, oj, hoj, _⟩ := mem_ready.1 hj
          have hjl : j < ops.size := (Array.getElem?_eq_some_iff.1 hoj).1
          by_cases e2 : i = j
          · subst e2
            have : i < L.size := by omega
            simp [this] at hu
          · by_cases e3 : j < i
            · rw [getD_set_ne true e2, getD_two (by omega), hlisted (i - j) j (Nat.le_refl _) e3] at hu
              cases hu
            · omega
        exact wpOp_mono (fun a'' w'' h'' => wpAny_done hrL h'' f) h'
    · exact hother i hi e hiq (ready_mono (ready_mono hi e) hiq)
theorem wpAny_tail {p : Nat} (hb : tailB md ops p = true) : ∀ (f : Nat) (L : Array Bool) (a : Act) (w : World), L.size = ops.size → Clo md ops L → L.getD p true = false → L.getD (p + 1) true = false →
    wpAnyH P md ops (RestQ Q (wpOp P ops Q p (wpOp P ops Q (p + 1) (Q .normal)))) S f ((L.setIfInBounds p true).setIfInBounds (p + 1) true) a w → wpAny P md ops Q (f + 2) L a w := by
  obtain ⟨h1, h2, h3, oq, hoq, eq, heq, hbq, honq⟩ := tailB_parts hb
  intro f
  induction f with
  | zero =>
    intro L a w hs hc hp hq H
    exact wpAny_tail_step hb hs hc hp hq 0 H (fun i hi hne hnq hr => by
      rw [H.1] at hr; cases hr)
  | succ f ih =>
    intro L a w hs hc hp hq H
    exact wpAny_tail_step hb hs hc hp hq (f + 1) H (fun i hi hne hnq hr => by
      refine wpOp_mono (fun a' w' h' => ?_) (wpOp_rest (H.2 i hr))
      refine ih (L.setIfInBounds i true) a' w' (by simpa using hs) (hc.set hi) (by rw [getD_set_ne true hne]; exact hp) (by rw [getD_set_ne true hnq]; exact hq) ?_
      have h9 := h'.2
      rw [Array.setIfInBounds_comm _ _ (fun x => hnq x.symm), Array.setIfInBounds_comm _ _ (fun x => hne x.symm)] at h9
      exact h9)
theorem op_valT {i : Nat} {o : Oper} {a : Act} {w w' : World} {v : Value} {K : Act → World → Prop} (hi : ops[i]? = some o) (hg : o.guard = none) (hr : (execOp a.eval o).run P w = .ok (.value v) w') (h : K (a.put o.dst v) w') : wpOp P ops Q i K a w := by
  have hw : Region.wanted o (yielded ops a.tmps) = true := by simp [Region.wanted, hg]
  unfold wpOp
  simp only [hi, hw, if_true]
  refine .inl ?_
  unfold Oper.wp
  rw [hr]
  exact h
theorem tail_call {p q : Nat} {o : Oper} {f : FuncId} {args : Array Value} {R : Ending → World → Prop} {a : Act} {w : World} (hi : ops[p]? = some o) (hg : o.guard = none) (hrun : (execOp a.eval o).run P w = .ok (.enter f args) w) (hC : Calls P f args w R)
    (hK : ∀ u w', R (.returned u) w' → wpOp P ops Q q (Q .normal) (a.put o.dst u) w') (hP : ∀ ch w', ¬ R (.panicked ch) w') (hO : ∀ w', ¬ R .outgrown w') : RestQ Q (wpOp P ops Q p (wpOp P ops Q q (Q .normal))) .normal a w := by
  have hw : Region.wanted o (yielded ops a.tmps) = true := by simp [Region.wanted, hg]
  show wpOp P ops Q p (wpOp P ops Q q (Q .normal)) a w
  unfold wpOp
  simp only [hi, hw, if_true, Oper.wp, hrun, Oper.upon]
  refine .inl (Calls.mono hC fun e w' he => ?_)
  cases e with
  | returned u => exact hK u w' he
  | panicked ch => exact absurd he (hP ch w')
  | outgrown => exact absurd he (hO w')
end
end Go.Proofs.Ytfnmoaiejpkocaa

namespace Go.Proofs.Ytfnmoaiejpkocaa
open Go Go.RowKit Go.Maps
set_option linter.unusedVariables false

/-- What unify leaves. -/
def UniI (R : USt × Int × Nat) (h m : Nat) (w : World) (e : Ending) (w' : World) : Prop :=
  e = .returned (.int .i64 R.2.1) ∧ (∃ lk' : Nat, HeapO w' h R.1.1 R.1.2 m lk') ∧ Below m w w'
/-- What holds at the head of the loop. -/
def UInv (R : USt × Int × Nat) (B h L m j : Nat) (ps : List (Cel × Cel)) (S : USt) (w0 wr : World) : Prop :=
  uRun (20000 - j) ps.reverse S = R ∧ Fit S ∧ (∀ p ∈ ps, WOk S.1 p.1 ∧ WOk S.1 p.2) ∧ (∃ (lk' N' : Nat) (mk' : Nat → Nat), HeapO wr h S.1 S.2 m lk' ∧ SMap wr m N' mk' ∧ (∀ o, mk' o ≤ lk') ∧ lk' ≤ j ∧ N' ≤ j * 20000) ∧ StkP B wr L ps ∧ ps.length ≤ 1 + 20 * j ∧ Below m w0 wr
theorem uStep_new {st : USt} (hf : Fit st) {x y : Cel} (hx : WOk st.1 x) : (uStep st x y).2.length ≤ 20 := by
  unfold uStep
  split
  · split <;> simp
  · split
    · simp
    · split
      · rename_i h4
        split
        · obtain ⟨s0, s1, s2⟩ := hx.1.2.2 h4.1
          have f := hf.1.shp.funs x.2.1.toNat (by omega) s2
          simp [pairsL]
          omega
        · simp
      · split <;> simp
/-- Behind a pair whose code is 0. -/
theorem UInv.next {R : USt × Int × Nat} {B h L m j : Nat} {qs : List (Cel × Cel)} {q : Cel × Cel} {S : USt} {w0 wr w' : World} {lk N : Nat} (H : UInv R B h L m j (qs ++ [q]) S w0 wr) (hj : j < 20000) (hlk : lk ≤ j) (hN : N ≤ j * 20000) (hb : Below m wr w') {e : Ending} (M : MatOut (uStep S (drf S.1 q.1) (drf S.1 q.2)) B h L m lk N S.1.length qs wr e w') (hc : (uStep S (drf S.1 q.1) (drf S.1 q.2)).1.2 = 0) : UInv R B h L m (j + 1) (qs ++ (uStep S (drf S.1 q.1) (drf S.1 q.2)).2.reverse) (uStep S (drf S.1 q.1) (drf S.1 q.2)).1.1 w0 w' := by
  obtain ⟨h1, h2, h3, _, _, h6, h7⟩ := H
  obtain ⟨hp1, hp2⟩ := h3 q (by simp)
  obtain ⟨hx, hox⟩ := wok_drf h2.1 h2.2.1 hp1
  obtain ⟨hy, hoy⟩ := wok_drf h2.1 h2.2.1 hp2
  obtain ⟨s1, s2, s3, s4⟩ := uStep_fit h2 hx hy hox hoy
  obtain ⟨_, ⟨lk', N', mk', g1, g2, g3, g4, g5⟩, g6, _⟩ := M
  have hlen := h2.1.shp.len
  have hnew := uStep_new h2 (y := drf S.1 q.2) hx
  refine ⟨?_, s1, fun p hp => ?_, ⟨lk', N', mk', g1, g2, g3, by omega, by omega⟩, g6 hc, ?_, h7.trans hb⟩
  · rw [← h1, List.reverse_append, List.reverse_reverse]
    rw [show 20000 - j = (20000 - (j + 1)) + 1 by omega, List.reverse_append, List.reverse_cons, List.reverse_nil, List.nil_append, List.singleton_append, uRun_ok _ _ _ _ hc]
  · rcases List.mem_append.1 hp with hp | hp
    · have := h3 p (by simp [hp]); exact ⟨s3 _ this.1, s3 _ this.2⟩
    · have := s4 p (by simpa using hp); exact ⟨s3 _ this.1, s3 _ this.2⟩
  · simp only [List.length_append, List.length_cons, List.length_nil, List.length_reverse] at h6 ⊢
    omega
theorem UInv.bad {R : USt × Int × Nat} {B h L m j : Nat} {qs : List (Cel × Cel)} {q : Cel × Cel} {S : USt} {w0 wr w' : World} {lk N : Nat} {e : Ending} (H : UInv R B h L m j (qs ++ [q]) S w0 wr) (hj : j < 20000) (hb : Below m wr w') (M : MatOut (uStep S (drf S.1 q.1) (drf S.1 q.2)) B h L m lk N S.1.length qs wr e w') (hc : (uStep S (drf S.1 q.1) (drf S.1 q.2)).1.2 ≠ 0) : UniI R h m w0 (.returned (.int .i64 (uStep S (drf S.1 q.1) (drf S.1 q.2)).1.2)) w' := by
  obtain ⟨h1, _, _, _, _, _, h7⟩ := H
  obtain ⟨_, ⟨lk', N', mk', g1, _⟩, _, _⟩ := M
  rw [show 20000 - j = (20000 - (j + 1)) + 1 by omega, List.reverse_append, List.reverse_cons, List.reverse_nil, List.nil_append, List.singleton_append, uRun_bad _ _ _ _ hc] at h1
  rw [← h1]
  exact ⟨rfl, ⟨lk', g1⟩, h7.trans hb⟩

set_option maxHeartbeats 2000000 in
set_option maxRecDepth 100000 in
theorem unify_any (h m : Nat) (a b : Cel) (st : USt) (w : World) (hf : Fit st) (ha : WOk st.1 a) (hb : WOk st.1 b) (H : HeapO w h st.1 st.2 m 0) (hm : SMap w m 0 (fun _ => 0)) :
    Calls Try.prog 68 #[.pointer (some ⟨h, 0, none⟩), wv a, wv b] w (UniI (uRun 20000 [(a, b)] st) h m w) := by
  have hlm : m < w.heap.size := hm.lt
  obtain ⟨ta, ua, ea⟩ := wv_iface a
  obtain ⟨tb, ub, eb⟩ := wv_iface b
  obtain ⟨W1, eW1⟩ : ∃ W, W = (w.alloc (.cells #[.iface ta ua, .iface tb ub] 139)).alloc (.cells #[.slice (some ⟨w.heap.size, 0, none⟩) 1 1] 141) := ⟨_, rfl⟩
  have hb1 : Below w.heap.size w W1 := by rw [eW1]; exact ((Below.refl _ _).alloc (Nat.le_refl _) _).alloc (by simp) _
  have HU0 : Hid (UInv (uRun 20000 [(a, b)] st) w.heap.size h (w.heap.size + 1) m 0 [(a, b)] st w W1) := by
    refine ⟨rfl, hf, fun p hp => by rw [List.mem_singleton.1 hp]; exact ⟨ha, hb⟩, ⟨0, 0, fun _ => 0, H.below hb1, hm.below hb1, fun _ => Nat.le_refl _, Nat.le_refl _, Nat.le_refl _⟩, ⟨some ⟨w.heap.size, 0, none⟩, 1, ?_, ?_, by omega⟩, by simp, hb1.mono (by omega)⟩
    · rw [eW1]
      have := heap_alloc_new (w.alloc (.cells #[.iface ta ua, .iface tb ub] 139)) (.cells #[.slice (some ⟨w.heap.size, 0, none⟩) 1 1] 141)
      simpa using this
    · refine ⟨by simp [flatP], .inr ⟨w.heap.size, 1, #[.iface ta ua, .iface tb ub], rfl, Nat.le_refl _, ?_, Nat.le_refl _, by unfold maxLen; omega, rfl, ?_⟩⟩
      · rw [eW1, Below.heap_alloc _ _ _ (by simp)]; exact heap_alloc_new _ _
      · simp [flatP, ea, eb]
  have HE1 : Hid _ := eW1
  rw [ea, eb]
  generalize uRun 20000 [(a, b)] st = R at HU0 ⊢
  have hLz : w.heap.size + 1 < W1.heap.size := by rw [eW1]; simp
  clear hf ha hb H hm hb1 ea eb eW1
  go_enter Try.func68, Try.ntmps68
  go_wp2
  rw [← HE1.out]
  clear HE1
  go_loopw [8] (fun i wr => ∃ (j : Nat) (ps : List (Cel × Cel)) (S : USt), j ≤ 20000 ∧ i = .int .i64 j ∧ Hid (UInv R w.heap.size h (w.heap.size + 1) m j ps S w wr)) (fun i _ => 20000 - (intOf i).toNat)
  case atStart => exact ⟨0, [(a, b)], st, Nat.zero_le _, rfl, HU0⟩
  case round =>
    obtain ⟨j, ps, S, hj, rfl, HI⟩ := hrel
    obtain ⟨p, c, hL, _, _⟩ := HI.out.2.2.2.2.1
    have c0 : wr.cell? ⟨w.heap.size + 1, 0, none⟩ = some (.slice p ps.length c) := by simp [World.cell?, hL]
    have hpl := HI.out.2.2.2.2.2.1
    clear hL
    rcases List.eq_nil_or_concat ps with rfl | ⟨qs, q, rfl⟩
    · have HR : Hid (UniI R h m w (.returned (.int .i64 0)) wr) := by
        obtain ⟨h1, _, _, ⟨lk', _, _, g1, _⟩, _, _, h7⟩ := HI.out
        rw [List.reverse_nil, uRun_nil] at h1
        rw [← h1]
        exact ⟨rfl, ⟨lk', g1⟩, h7⟩
      clear HI hpl
      go_wp2
      go_ret
      exact HR.out
    · rw [List.concat_eq_append] at HI c0 hpl
      have hql : (qs ++ [q]).length = qs.length + 1 := by simp
      rw [hql] at c0 hpl
      obtain ⟨nq, enq⟩ : ∃ k, k = qs.length := ⟨_, rfl⟩
      rw [← enq] at c0 hpl
      have hpos : (0 : Int) < (nq : Int) + 1 := by omega
      have hnq : nq ≤ 900000 := by omega
      by_cases hjj : j = 20000
      · subst hjj
        have HR : Hid (UniI R h m w (.returned (.int .i64 3)) wr) := by
          obtain ⟨h1, _, _, ⟨lk', _, _, g1, _⟩, _, _, h7⟩ := HI.out
          rw [Nat.sub_self, List.reverse_append, List.reverse_cons, List.reverse_nil, List.nil_append, List.singleton_append, uRun_zero] at h1
          rw [← h1]
          exact ⟨rfl, ⟨lk', g1⟩, h7⟩
        clear HI hpl enq hql
        go_wp2
        go_ret
        exact HR.out
      · have hjlt : j < 20000 := by omega
        have hjb : ((j : Int) == 20000) = false := by simp; omega
        have hpop := popP_any w.heap.size (w.heap.size + 1) qs q wr (by omega) HI.out.2.2.2.2.1
        -- pop, the box of the pair, two words followed, and match
        obtain ⟨lk, N, mk, g1, g2, g3, g4, g5⟩ := HI.out.2.2.2.1
        obtain ⟨hp1, hp2⟩ := HI.out.2.2.1 q (by simp)
        have hfS := HI.out.2.1
        obtain ⟨hx, hox⟩ := wok_drf hfS.1 hfS.2.1 hp1
        obtain ⟨hy, hoy⟩ := wok_drf hfS.1 hfS.2.1 hp2
        have hlen := hfS.1.shp.len
        have HD1 : Hid (∀ W, HeapAt W h S.1 S.2 → Calls Try.prog 45 #[.pointer (some ⟨h, 0, none⟩), wv q.1] W fun e w' => e = .returned (wv (drf S.1 q.1)) ∧ Below W.heap.size W w') := fun W hW => deref_any h q.1 S.1 S.2 W hfS.1 hp1.1 hW
        have HD2 : Hid (∀ W, HeapAt W h S.1 S.2 → Calls Try.prog 45 #[.pointer (some ⟨h, 0, none⟩), wv q.2] W fun e w' => e = .returned (wv (drf S.1 q.2)) ∧ Below W.heap.size W w') := fun W hW => deref_any h q.2 S.1 S.2 W hfS.1 hp2.1 hW
        have HMA : Hid (∀ W, HeapO W h S.1 S.2 m lk → SMap W m N mk → StkP w.heap.size W (w.heap.size + 1) qs → Calls Try.prog 93 #[.pointer (some ⟨h, 0, none⟩), wv (drf S.1 q.1), wv (drf S.1 q.2), .pointer (some ⟨w.heap.size + 1, 0, none⟩)] W (MatOut (uStep S (drf S.1 q.1) (drf S.1 q.2)) w.heap.size h (w.heap.size + 1) m lk N S.1.length qs W)) := fun W a1 a2 a3 => match_any w.heap.size h (w.heap.size + 1) m lk N _ _ S qs mk W hfS hx hy hox hoy (by omega) (by omega) (by omega) g3 (by omega) a1 a2 a3
        have HHE : Hid (HeapO wr h S.1 S.2 m lk ∧ SMap wr m N mk) := ⟨g1, g2⟩
        have HLK : Hid (lk ≤ j ∧ N ≤ j * 20000) := ⟨g4, g5⟩
        have HNX : Hid (∀ W w' e, Below m wr W → Below m W w' → MatOut (uStep S (drf S.1 q.1) (drf S.1 q.2)) w.heap.size h (w.heap.size + 1) m lk N S.1.length qs W e w' → MatOut (uStep S (drf S.1 q.1) (drf S.1 q.2)) w.heap.size h (w.heap.size + 1) m lk N S.1.length qs wr e w') := fun W w' e h1 h2 ⟨k1, k2, k3, k4⟩ => ⟨k1, k2, k3, h1.trans h2⟩
        obtain ⟨X, eX⟩ : ∃ X, X = drf S.1 q.1 := ⟨_, rfl⟩
        obtain ⟨Y, eY⟩ : ∃ Y, Y = drf S.1 q.2 := ⟨_, rfl⟩
        have HNEXT := fun w' e hb M hc => UInv.next (w' := w') (e := e) HI.out hjlt g4 g5 hb M hc
        have HBAD := fun w' e hb M hc => UInv.bad (w' := w') (e := e) (lk := lk) (N := N) HI.out hjlt hb M hc
        have HNEXT' : Hid _ := HNEXT
        have HBAD' : Hid _ := HBAD
        clear HNEXT HBAD
        rw [← eX, ← eY] at HNEXT' HBAD' HMA HNX
        rw [← eX] at HD1
        rw [← eY] at HD2
        generalize uStep S X Y = U at HNEXT' HBAD' HMA HNX
        obtain ⟨t1, u1, e1⟩ := wv_iface q.1
        obtain ⟨t2, u2, e2⟩ := wv_iface q.2
        obtain ⟨t3, u3, e3⟩ := wv_iface X
        obtain ⟨t4, u4, e4⟩ := wv_iface Y
        rw [e1, e2] at hpop
        rw [e1] at HD1
        rw [e2] at HD2
        rw [e3] at HD1 HMA
        rw [e4] at HD2 HMA
        have hwz : w.heap.size ≤ wr.heap.size := by have := World.block_lt_of_cell? _ _ c0; simp at this; omega
        clear hx hox hy hoy hp1 hp2 hfS hlen g1 g2 g3 g4 g5 eX eY e1 e2 e3 e4 hpl enq hql HI HU0 hjj
        go_wp2_with fail
        refine hpop.mono ?_
        rintro e w2 ⟨rfl, hs2, hf2⟩
        have HS2 : Hid (StkP w.heap.size w2 (w.heap.size + 1) qs ∧ FrS w.heap.size wr w2) := ⟨hs2, hf2⟩
        clear hs2 hf2 hpop c0
        obtain ⟨W3, eW3⟩ : ∃ W, W = w2.alloc (.cells #[.iface t1 u1, .iface t2 u2] 139) := ⟨_, rfl⟩
        have hb3 : Below w2.heap.size w2 W3 := by rw [eW3]; exact alloc_on _ _
        have hbx : Box2 W3 w2.heap.size (.iface t1 u1) (.iface t2 u2) := by rw [eW3]; exact Box2.of_block (t := 139) (heap_alloc_new _ _)
        have HE3 : Hid _ := eW3
        have HW3 : Hid (∀ W, Below W3.heap.size W3 W → (HeapO W h S.1 S.2 m lk ∧ SMap W m N mk ∧ StkP w.heap.size W (w.heap.size + 1) qs) ∧ Below m wr W ∧ Box2 W w2.heap.size (.iface t1 u1) (.iface t2 u2)) := fun W hW => by
          have hbb := Below.on hb3 hW
          have ho2 := HHE.out.1.frS HS2.out.2
          have hm2 : SMap w2 m N mk := HHE.out.2.of_block (HS2.out.2.2.1 m HHE.out.2.lt (fun cs f e => HHE.out.2.noCells _ _ _ e) (fun cs f e => HHE.out.2.noCells _ _ _ e))
          exact ⟨⟨ho2.below hbb, hm2.below hbb, HS2.out.1.below hbb⟩, (HS2.out.2.2.2.mono (by omega)).trans (hbb.mono (by have := HS2.out.2.1; omega)), hbx.on hW⟩
        clear eW3 hb3
        go_upto_region 8 with fail
        rw [← HE3.out]
        clear HE3
        obtain ⟨x0, x1, x2⟩ := hbx

        refine wp_region_any (by kernel_rfl) ?_
        refine wpAny_tail (p := 9) (S := fun W => W.cell? ⟨w2.heap.size, 0, none⟩ = some (.iface t1 u1) ∧ W.cell? ⟨w2.heap.size, 1, none⟩ = some (.iface t2 u2)) (by kernel_rfl) 9 _ _ _ rfl (clo_start _ _ _) (by kernel_rfl) (by kernel_rfl) ?_
        change wpAnyH _ _ _ _ _ _ _ _ W3.drew
        have hS0 : W3.drew.cell? ⟨w2.heap.size, 0, none⟩ = some (.iface t1 u1) ∧ W3.drew.cell? ⟨w2.heap.size, 1, none⟩ = some (.iface t2 u2) := ⟨x0, x1⟩
        refine hTake (i := 0) (v := .pointer (some ⟨h, 0, none⟩)) (some 23) (by kernel_rfl) (by kernel_rfl) (by kernel_rfl) (by kernel_rfl) (by kernel_rfl) (fun _ _ _ h => h) (fun o ho W hSw => ?y0) hS0 ?_
        case y0 =>
          cases ho
          obtain ⟨s0, s1⟩ := hSw
          simp [execOp, go_sem, Act.eval]
        simp only [Act.put, List.setIfInBounds_toArray, List.set_cons_zero, List.set_cons_succ]
        refine hTake (i := 1) (v := .pointer (some ⟨h, 0, none⟩)) (some 24) (by kernel_rfl) (by kernel_rfl) (by kernel_rfl) (by kernel_rfl) (by kernel_rfl) (fun _ _ _ h => h) (fun o ho W hSw => ?y1) hS0 ?_
        case y1 =>
          cases ho
          obtain ⟨s0, s1⟩ := hSw
          simp [execOp, go_sem, Act.eval]
        simp only [Act.put, List.setIfInBounds_toArray, List.set_cons_zero, List.set_cons_succ]
        refine hTake (i := 2) (v := .pointer (some ⟨w2.heap.size, 0, none⟩)) (some 25) (by kernel_rfl) (by kernel_rfl) (by kernel_rfl) (by kernel_rfl) (by kernel_rfl) (fun _ _ _ h => h) (fun o ho W hSw => ?y2) hS0 ?_
        case y2 =>
          cases ho
          obtain ⟨s0, s1⟩ := hSw
          simp [execOp, go_sem, Act.eval]
        simp only [Act.put, List.setIfInBounds_toArray, List.set_cons_zero, List.set_cons_succ]
        refine hTake (i := 3) (v := .iface t1 u1) (some 26) (by kernel_rfl) (by kernel_rfl) (by kernel_rfl) (by kernel_rfl) (by kernel_rfl) (fun _ _ _ h => h) (fun o ho W hSw => ?y3) hS0 ?_
        case y3 =>
          cases ho
          obtain ⟨s0, s1⟩ := hSw
          simp [execOp, go_sem, Act.eval, s0]
        simp only [Act.put, List.setIfInBounds_toArray, List.set_cons_zero, List.set_cons_succ]
        refine hTake (i := 5) (v := .pointer (some ⟨h, 0, none⟩)) (some 28) (by kernel_rfl) (by kernel_rfl) (by kernel_rfl) (by kernel_rfl) (by kernel_rfl) (fun _ _ _ h => h) (fun o ho W hSw => ?y5) hS0 ?_
        case y5 =>
          cases ho
          obtain ⟨s0, s1⟩ := hSw
          simp [execOp, go_sem, Act.eval]
        simp only [Act.put, List.setIfInBounds_toArray, List.set_cons_zero, List.set_cons_succ]
        refine hTake (i := 6) (v := .pointer (some ⟨w2.heap.size, 1, none⟩)) (some 29) (by kernel_rfl) (by kernel_rfl) (by kernel_rfl) (by kernel_rfl) (by kernel_rfl) (fun _ _ _ h => h) (fun o ho W hSw => ?y6) hS0 ?_
        case y6 =>
          cases ho
          obtain ⟨s0, s1⟩ := hSw
          simp [execOp, go_sem, Act.eval]
        simp only [Act.put, List.setIfInBounds_toArray, List.set_cons_zero, List.set_cons_succ]
        refine hTake (i := 7) (v := .iface t2 u2) (some 30) (by kernel_rfl) (by kernel_rfl) (by kernel_rfl) (by kernel_rfl) (by kernel_rfl) (fun _ _ _ h => h) (fun o ho W hSw => ?y7) hS0 ?_
        case y7 =>
          cases ho
          obtain ⟨s0, s1⟩ := hSw
          simp [execOp, go_sem, Act.eval, s1]
        simp only [Act.put, List.setIfInBounds_toArray, List.set_cons_zero, List.set_cons_succ]
        have hbd : Below W3.heap.size W3 W3.drew := (Below.refl _ _).drew
        refine hCallE (i := 4) (some 27) (by kernel_rfl) (by kernel_rfl) (by kernel_rfl) (f := 45) (args := #[.pointer (some ⟨h, 0, none⟩), .iface t1 u1]) (fun o ho => ?z4) (HD1.out _ (HW3.out _ hbd).1.1.at) ?_ (fun ch w' hh => by cases hh.1) (fun w' hh => by cases hh.1)
        case z4 =>
          cases ho
          simp [execOp, go_sem, Act.eval]
        intro u w4 hout
        obtain ⟨hu, hb4⟩ := hout
        injection hu with hu
        subst hu
        have hb4' : Below W3.heap.size W3 w4 := Below.on hbd hb4
        have hS4 : w4.cell? ⟨w2.heap.size, 0, none⟩ = some (.iface t1 u1) ∧ w4.cell? ⟨w2.heap.size, 1, none⟩ = some (.iface t2 u2) := ⟨(HW3.out _ hb4').2.2.1, (HW3.out _ hb4').2.2.2.1⟩
        refine ⟨hS4, ?_⟩
        simp only [Act.put, List.setIfInBounds_toArray, List.set_cons_zero, List.set_cons_succ]
        refine hCallE (i := 8) (some 31) (by kernel_rfl) (by kernel_rfl) (by kernel_rfl) (f := 45) (args := #[.pointer (some ⟨h, 0, none⟩), .iface t2 u2]) (fun o ho => ?z8) (HD2.out _ (HW3.out _ hb4').1.1.at) ?_ (fun ch w' hh => by cases hh.1) (fun w' hh => by cases hh.1)
        case z8 =>
          cases ho
          simp [execOp, go_sem, Act.eval]
        intro u w5 hout
        obtain ⟨hu, hb5⟩ := hout
        injection hu with hu
        subst hu
        have hb5' : Below W3.heap.size W3 w5 := Below.on hb4' hb5
        have hS5 : w5.cell? ⟨w2.heap.size, 0, none⟩ = some (.iface t1 u1) ∧ w5.cell? ⟨w2.heap.size, 1, none⟩ = some (.iface t2 u2) := ⟨(HW3.out _ hb5').2.2.1, (HW3.out _ hb5').2.2.2.1⟩
        refine ⟨hS5, ?_⟩
        simp only [Act.put, List.setIfInBounds_toArray, List.set_cons_zero, List.set_cons_succ]
        refine wpAnyH_done (by kernel_rfl) ?_ _
        obtain ⟨⟨a1, a2, a3⟩, a4, _⟩ := HW3.out _ hb5'
        have HCALL : Hid _ := HMA.out w5 a1 a2 a3
        have HA4 : Hid (Below m wr w5) := a4
        clear hS0 hS4 hS5 x0 x1 x2 hbd hb4 hb4' hb5 hb5' a1 a2 a3 a4 HW3 HD1 HD2 HMA HHE HS2
        refine tail_call (by rfl) (by rfl) (f := 93) (args := #[.pointer (some ⟨h, 0, none⟩), .iface t3 u3, .iface t4 u4, .pointer (some ⟨w.heap.size + 1, 0, none⟩)]) ?_ HCALL.out ?_ (fun ch w' hh => by cases hh.1) (fun w' hh => by cases hh.1)
        · simp [execOp, go_sem, Act.eval]
        intro u w9 hout
        have HM9 : Hid (MatOut U w.heap.size h (w.heap.size + 1) m lk N S.1.length qs wr (.returned u) w9) := HNX.out w5 w9 _ HA4.out hout.2.2.2 hout
        have hu := hout.1
        injection hu with hu
        subst hu
        clear hout HCALL HNX
        refine op_valT (by rfl) (by rfl) (v := .int .i64 U.1.2) (w' := w9) ?_ ?_
        · simp [execOp, go_sem, Act.eval, Act.put]
        simp only [Act.put, List.setIfInBounds_toArray]
        by_cases hc : U.1.2 = 0
        · have HN9 : Hid _ := HNEXT'.out w9 _ HM9.out.2.2.2 HM9.out hc
          rw [hc]
          clear HNEXT' HBAD' HM9 hc
          go_wp2
          go_roundw
          case rel => exact ⟨j + 1, _, _, by omega, by first | rfl | (simp; done) | (push_cast; rfl), HN9⟩
          case measure => simp [intOf]; omega
        · have HR : Hid (UniI R h m w (.returned (.int .i64 U.1.2)) w9) := HBAD'.out w9 _ HM9.out.2.2.2 HM9.out hc
          generalize U.1.2 = code at hc HR ⊢
          have hcn : (code != 0) = true := by simp [hc]
          clear HNEXT' HBAD' HM9 hc
          go_wp2
          go_ret
          exact HR.out

end Go.Proofs.Ytfnmoaiejpkocaa

