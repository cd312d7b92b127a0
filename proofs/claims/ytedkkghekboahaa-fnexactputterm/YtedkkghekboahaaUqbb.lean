/- Texts of UwP, UwI, BdK. Own work of the verifier. -/
import Derived.Test.YtedkkghekboahaaUqao
import Derived.Test.YtedkkghekboahaaUqas
import Derived.Test.YtedkkghekboahaaUqba
namespace Go.Proofs.Ytedkkghekboahaa
open Go Go.RowKit
set_option linter.unusedVariables false

/-- The cells in which those at some addresses are variables again. -/
def unwC (xs : List Cel) (ds : List Int) : List Cel := (List.range xs.length).map fun (i : Nat) => if (i : Int) ∈ ds then (0, (i : Int), []) else xs.getD i Cel.none
theorem unwC_len (xs : List Cel) (ds : List Int) : (unwC xs ds).length = xs.length := by simp [unwC]
theorem unwC_at (xs : List Cel) (ds : List Int) (i : Nat) (h : i < xs.length) : (unwC xs ds).getD i Cel.none = if (i : Int) ∈ ds then (0, (i : Int), []) else xs.getD i Cel.none := by
  simp [unwC, List.getD, h]
theorem cels_ext {a b : List Cel} (hl : a.length = b.length) (h : ∀ i, i < a.length → a.getD i Cel.none = b.getD i Cel.none) : a = b := by
  apply List.ext_getElem hl
  intro i h1 h2
  have := h i h1
  simpa [List.getD, h1, h2] using this
theorem unwC_nil (xs : List Cel) : unwC xs [] = xs := cels_ext (unwC_len _ _) fun i hi => by
  rw [unwC_len] at hi
  rw [unwC_at _ _ _ hi, if_neg (by simp)]
theorem unwC_cons (xs : List Cel) (ds : List Int) (a : Nat) (ha : a < xs.length) : (unwC xs ds).set a (0, (a : Int), []) = unwC xs ((a : Int) :: ds) := cels_ext (by simp [unwC_len]) fun i hi => by
  rw [List.length_set, unwC_len] at hi
  rw [unwC_at _ _ _ hi]
  by_cases e : i = a
  · subst e
    simp [List.getD, unwC_len, hi]
  · have e1 : ((unwC xs ds).set a (0, (a : Int), [])).getD i Cel.none = (unwC xs ds).getD i Cel.none := by
      simp only [List.getD, List.getElem?_set]
      have : ¬ a = i := fun x => e x.symm
      simp [this]
    rw [e1, unwC_at _ _ _ hi]
    have e2 : ((i : Int) ∈ (a : Int) :: ds) ↔ (i : Int) ∈ ds := by
      rw [List.mem_cons]
      constructor
      · rintro (h | h)
        · exact absurd (by omega) e
        · exact h
      · exact .inr
    by_cases h9 : (i : Int) ∈ ds
    · rw [if_pos h9, if_pos (e2.2 h9)]
    · rw [if_neg h9, if_neg (fun h => h9 (e2.1 h))]
theorem drop_int (tr : List Int) (j : Nat) (h : j < tr.length) : tr.drop j = tr.getD j 0 :: tr.drop (j + 1) := by
  rw [List.drop_eq_getElem_cons h]; simp [List.getD, h]
/-- What is true of the cells, and of variables, is true of all. -/
theorem unwC_all {P : Cel → Prop} {xs : List Cel} {ds : List Int} (h : ∀ i, i < xs.length → P (xs.getD i Cel.none)) (hv : ∀ i : Nat, i < xs.length → P (0, (i : Int), [])) (i : Nat) (hi : i < xs.length) : P ((unwC xs ds).getD i Cel.none) := by
  rw [unwC_at _ _ _ hi]
  split
  · exact hv i hi
  · exact h i hi
theorem take_at (xs : List Cel) (k i : Nat) (h : i < k) : (xs.take k).getD i Cel.none = xs.getD i Cel.none := by
  simp [List.getD, h]
/-- A head of what is whole is whole if no functor in it reaches beyond. -/
theorem whole_take : ∀ (ys : List Cel) (m : Int) (k : Nat), 0 ≤ m → k ≤ ys.length → (∀ c ∈ ys, c.1 = 3 → 1 ≤ c.2.1) → wholeF m ys = true → (wholeF m (ys.take k) = true ↔ m ≤ k ∧ ∀ i, i < k → (ys.getD i Cel.none).1 = 3 → (i : Int) + (ys.getD i Cel.none).2.1 < k)
  | [], m, k, h0, hk, _, h => by
    obtain rfl : k = 0 := by simpa using hk
    simp [wholeF] at h
    subst h
    simp [wholeF]
  | c :: r, m, 0, h0, hk, hc, h => by
    simp only [List.take_zero, wholeF]
    constructor
    · intro e
      have : m = 0 := by simpa using e
      exact ⟨by omega, fun i hi => absurd hi (Nat.not_lt_zero _)⟩
    · rintro ⟨e, _⟩
      have : m = 0 := by simp at e; omega
      simp [this]
  | c :: r, m, k + 1, h0, hk, hc, h => by
    have hr : ∀ c ∈ r, c.1 = 3 → 1 ≤ c.2.1 := fun x hx => hc x (List.mem_cons_of_mem _ hx)
    have hk' : k ≤ r.length := by simpa using hk
    simp only [List.take_succ_cons, wholeF] at h ⊢
    by_cases k3 : c.1 = 3
    · rw [if_pos k3] at h ⊢
      by_cases hm : 0 < m
      · rw [if_pos hm] at h; cases h
      · rw [if_neg hm] at h ⊢
        have h1 := hc c (List.mem_cons_self ..) k3
        rw [whole_take r c.2.1 k (by omega) hk' hr h]
        constructor
        · rintro ⟨a, b⟩
          refine ⟨by omega, fun i hi h3 => ?_⟩
          cases i with
          | zero => simp; omega
          | succ i =>
            rw [List.getD_cons_succ] at h3 ⊢
            have := b i (by omega) h3
            omega
        · rintro ⟨a, b⟩
          refine ⟨?_, fun i hi h3 => ?_⟩
          · have := b 0 (by omega) (by simpa using k3)
            simp at this; omega
          · have := b (i + 1) (by omega) (by rw [List.getD_cons_succ]; exact h3)
            rw [List.getD_cons_succ] at this; omega
    · rw [if_neg k3] at h ⊢
      have hm' : 0 ≤ (if 0 < m then m - 1 else m) := by split <;> omega
      rw [whole_take r _ k hm' hk' hr h]
      constructor
      · rintro ⟨a, b⟩
        refine ⟨by split at a <;> omega, fun i hi h3 => ?_⟩
        cases i with
        | zero => exact absurd (by simpa using h3) k3
        | succ i =>
          rw [List.getD_cons_succ] at h3 ⊢
          have := b i (by omega) h3
          omega
      · rintro ⟨a, b⟩
        refine ⟨by split <;> omega, fun i hi h3 => ?_⟩
        have := b (i + 1) (by omega) (by rw [List.getD_cons_succ]; exact h3)
        rw [List.getD_cons_succ] at this; omega

/-- May it be unwound so? -/
noncomputable def unwB (xs : List Cel) (tr : List Int) (mark top : Int) : Bool := storeB xs tr && (decide (0 ≤ mark ∧ mark ≤ tr.length) && (decide (0 ≤ top ∧ top ≤ xs.length) && wholeF 0 (xs.take top.toNat)))
def unwX (xs : List Cel) (tr : List Int) (mark top : Int) : List Cel := (unwC xs (tr.drop mark.toNat)).take top.toNat
def unwT (tr : List Int) (mark : Int) : List Int := tr.take mark.toNat
/-- What Unwind answers. -/
noncomputable def unwA (xs : List Cel) (tr : List Int) (mark top : Int) : (List Cel × List Int) × Int :=
  if unwB xs tr mark top = true then (if storeB (unwX xs tr mark top) (unwT tr mark) = true then ((unwX xs tr mark top, unwT tr mark), 0) else (([], []), 4)) else (([], []), 1)
theorem unwX_all {P : Cel → Prop} {xs : List Cel} {tr : List Int} {mark top : Int} (h : ∀ i, i < xs.length → P (xs.getD i Cel.none)) (hv : ∀ i : Nat, i < xs.length → P (0, (i : Int), [])) (i : Nat) (hi : i < (unwX xs tr mark top).length) : P ((unwX xs tr mark top).getD i Cel.none) := by
  unfold unwX at hi ⊢
  rw [List.length_take, unwC_len] at hi
  rw [take_at _ _ _ (by omega)]
  exact unwC_all h hv i (by omega)
theorem okW_var (i : Nat) (h : i < 20000) : okW 0 (i : Int) ([] : List Int).length = true := by
  simp [okW, cellB]; omega

end Go.Proofs.Ytedkkghekboahaa

namespace Go.Proofs.Ytedkkghekboahaa
open Go Go.RowKit Go.Maps
set_option linter.unusedVariables false

theorem IIn.set {w : World} {p : Option Addr} {zs : List Int} (h : IIn w p zs) {a : Addr} {u : Value} (hc : w.cell? a = some u) (hu : ∀ x, u ≠ .int .i64 x) (v : Value) : IIn (w.setCell a v) p zs := fun hn => by
  obtain ⟨b, o, rfl, hz⟩ := h hn
  refine ⟨b, o, rfl, fun i hi => ?_⟩
  rw [World.cell?_setCell_other _ _ _ _ (fun e => by rw [e] at hc; rw [hz i hi] at hc; exact hu _ (Option.some.inj hc).symm)]
  exact hz i hi
set_option maxRecDepth 100000 in
theorem pop_any (h : Nat) (pt : Option Addr) (j ct : Nat) (zs : List Int) (w : World) (hj : j < zs.length) (hz : zs.length ≤ 20000) (hct : j + 1 ≤ ct) (h1 : w.cell? ⟨h, 1, none⟩ = some (.slice pt (j + 1 : Nat) ct)) (hf : w.frozen? ⟨h, 1, none⟩ = false) (hi : IIn w pt zs) :
    Calls Try.prog 83 #[.pointer (some ⟨h, 1, none⟩)] w fun e w' => e = .returned (.int .i64 (zs.getD j 0)) ∧ ∃ n, w' = (w.setCell ⟨h, 1, none⟩ (.slice pt j ct)).drewN n := by
  obtain ⟨b, o, rfl, hc⟩ := hi (by omega)
  have hv := hc j hj
  generalize zs.getD j 0 = z at hv ⊢
  have hjb : j < 20000 := by omega
  clear hc hi hj hz
  go_enter Try.func83, Try.ntmps83
  go_wp2
  go_ret
  exact ⟨rfl, 0, rfl⟩

/-- The heap while it is unwound: the trail has j addresses yet. -/
def HU (w0 w : World) (h : Nat) (xs : List Cel) (tr : List Int) (pw pt : Option Addr) (cw ct m : Nat) (lk : Int) (j : Nat) : Prop :=
  w.heap[h]? = some (.cells #[.slice pw xs.length cw, .slice pt j ct, .map (some m), .int .i64 lk] 93) ∧ w.ownsRow (h + 1) 70 1 (.slice pw xs.length cw) xs.length ((unwC xs (tr.drop j)).map wv) ∧ IIn w pt tr ∧ Below h w0 w
theorem map_set_wv (ys : List Cel) (i : Nat) (c : Cel) : (ys.set i c).map wv = (ys.map wv).set i (wv c) := by rw [List.map_set]
/-- The length of the trail as it lies. -/
def lenAt (w : World) (h : Nat) : Nat := match w.cell? ⟨h, 1, none⟩ with
  | some (.slice _ n _) => n
  | _ => 0
theorem wv_ref (i : Int) : wv (0, i, []) = .iface 100 (.int .i64 i) := rfl
theorem HU.pop {w0 w : World} {h : Nat} {xs : List Cel} {tr : List Int} {pw pt : Option Addr} {cw ct m : Nat} {lk : Int} {j a g : Nat} (H : HU w0 w h xs tr pw pt cw ct m lk (j + 1)) (hj : j < tr.length) (ha : tr.getD j 0 = (a : Int)) (hal : a < xs.length) (hp : pw = some ⟨g, 0, none⟩) (n : Nat) :
    HU w0 (((w.setCell ⟨h, 1, none⟩ (.slice pt j ct)).drewN n).setCell ⟨g, a, none⟩ (.iface 100 (.int .i64 (a : Int)))) h xs tr pw pt cw ct m lk j := by
  obtain ⟨h0, h1, h2, h3⟩ := H
  subst hp
  have hg := h1.lt g rfl
  have hgh : g ≠ h := by omega
  have c1 : w.cell? ⟨h, 1, none⟩ = some (.slice pt (j + 1 : Nat) ct) := by simp [World.cell?, h0]
  have r1 : ((w.setCell ⟨h, 1, none⟩ (.slice pt j ct)).drewN n).ownsRow (h + 1) 70 1 (.slice (some ⟨g, 0, none⟩) xs.length cw) xs.length ((unwC xs (tr.drop (j + 1))).map wv) := ownsRow_setCell_other h1 (fun e => by simp [Value.ownBlock] at e; omega) _
  have cg : ((w.setCell ⟨h, 1, none⟩ (.slice pt j ct)).drewN n).cell? ⟨g, a, none⟩ = some (wv ((unwC xs (tr.drop (j + 1))).getD a Cel.none)) := by
    rw [r1.cellAt a (by simpa using hal)]
    simp [List.getD, unwC_len, hal]
  refine ⟨?_, ?_, ?_, ?_⟩
  · rw [heap_setCell_other _ _ _ _ (by simp; omega)]
    show (w.setCell ⟨h, 1, none⟩ (.slice pt j ct)).heap[h]? = _
    rw [heap_setCell_same _ _ _ _ _ _ h0]; rfl
  · have hs := (r1.stored a (.iface 100 (.int .i64 (a : Int)))).1
    rw [drop_int tr j hj, ha, ← unwC_cons xs _ a hal, map_set_wv, wv_ref]
    exact hs
  · refine IIn.set (u := wv ((unwC xs (tr.drop (j + 1))).getD a Cel.none)) ?_ cg (fun x => ?_) _
    · exact IIn.set h2 c1 (fun x => by simp) _
    · obtain ⟨ty, y, e⟩ := wv_iface ((unwC xs (tr.drop (j + 1))).getD a Cel.none)
      rw [e]; simp
  · exact (below_drewN (h3.setCell (p := ⟨h, 1, none⟩) (Nat.le_refl _) _) n).setCell (p := ⟨g, a, none⟩) (by simp; omega) _

set_option maxHeartbeats 1000000 in
set_option maxRecDepth 100000 in
theorem unwind_any (h : Nat) (xs : List Cel) (tr : List Int) (m : Nat) (lk : Int) (mark top : Nat) (w : World) (hl : xs.length ≤ 20000) (ht : tr.length ≤ 20000) (hm : mark ≤ tr.length) (hp : top ≤ xs.length) (hw : tr.all (isWB xs) = true) (H : HeapO w h xs tr m lk) :
    Calls Try.prog 59 #[.pointer (some ⟨h, 0, none⟩), .int .i64 mark, .int .i64 top] w fun e w' => e = .returned (.tuple #[]) ∧ HeapAt w' h (unwX xs tr mark top) (unwT tr mark) ∧ Below h w w' := by
  obtain ⟨pw, cw, pt, ct, h0, h1, h2, hmh⟩ := H
  have hct : tr.length ≤ ct := by
    rcases h2.2.2 with ⟨e, h'⟩ | ⟨g, cap, cur, hv, _, _, hc, _⟩
    · omega
    · simp only [Value.slice.injEq] at hv; omega
  have hcw : xs.length ≤ cw := by
    rcases h1.2 with ⟨e, h'⟩ | ⟨g, cap, cur, hv, _, _, hc, _⟩
    · omega
    · simp only [Value.slice.injEq] at hv; omega
  have HU0 : Hid (HU w w h xs tr pw pt cw ct m lk tr.length) := by
    refine ⟨h0, ?_, h2.iin, Below.refl _ _⟩
    rw [List.drop_length, unwC_nil]; exact h1
  have HWB : Hid (∀ j, j < tr.length → ∃ a : Nat, tr.getD j 0 = (a : Int) ∧ a < xs.length) := fun j hj => by
    have := List.all_eq_true.1 hw (tr.getD j 0) (by simp [List.getD, hj])
    simp only [isWB, decide_eq_true_eq] at this
    exact ⟨(tr.getD j 0).toNat, by omega, by omega⟩
  clear h0 h1 h2 hw hmh
  go_enter Try.func59, Try.ntmps59
  go_wp2
  go_loopw [] (fun wr => ∃ j, mark ≤ j ∧ j ≤ tr.length ∧ Hid (HU w wr h xs tr pw pt cw ct m lk j)) (fun wr => lenAt wr h)
  case atStart => exact ⟨tr.length, hm, Nat.le_refl _, HU0⟩
  case round =>
    obtain ⟨j, hj1, hj2, HR⟩ := hrel
    have hh := HR.out.1
    have c0 : wr.cell? ⟨h, 0, none⟩ = some (.slice pw xs.length cw) := by simp [World.cell?, hh]
    have c1 : wr.cell? ⟨h, 1, none⟩ = some (.slice pt j ct) := by simp [World.cell?, hh]
    have hfz : ∀ i, wr.frozen? ⟨h, i, none⟩ = false := fun i => frozen_of_row _ _ _ _ _ hh
    by_cases hlt : mark < j
    · obtain ⟨i, rfl⟩ : ∃ i, j = i + 1 := ⟨j - 1, by omega⟩
      obtain ⟨a, ea, hal⟩ := HWB.out i (by omega)
      have HPO := pop_any h pt i ct tr wr (by omega) ht (by omega) c1 (hfz 1) HR.out.2.2.1
      rw [ea] at HPO
      obtain ⟨g, cap, hv, hbg, hgs⟩ := HR.out.2.1.form (by omega)
      simp only [Value.slice.injEq, true_and] at hv
      obtain ⟨rfl, rfl⟩ := hv
      have HN : Hid (∀ n, HU w (((wr.setCell ⟨h, 1, none⟩ (.slice pt i ct)).drewN n).setCell ⟨g, a, none⟩ (.iface 100 (.int .i64 (a : Int)))) h xs tr (some ⟨g, 0, none⟩) pt cw ct m lk i) := fun n => HR.out.pop (by omega) ea hal rfl n
      have HC : Hid (∀ n, ((wr.setCell ⟨h, 1, none⟩ (.slice pt i ct)).drewN n).cell? ⟨h, 0, none⟩ = some (.slice (some ⟨g, 0, none⟩) xs.length cw) ∧ (∃ u, ((wr.setCell ⟨h, 1, none⟩ (.slice pt i ct)).drewN n).cell? ⟨g, a, none⟩ = some u) ∧ ((wr.setCell ⟨h, 1, none⟩ (.slice pt i ct)).drewN n).frozen? ⟨g, a, none⟩ = false) := fun n => by
        have r1 := HR.out.2.1
        have hne : (⟨h, 1, none⟩ : Addr) ≠ ⟨g, a, none⟩ := fun e => by have := congrArg Addr.block e; simp at this; omega
        have e1 := r1.cellAt a (by simpa using hal)
        have e2 : ((unwC xs (tr.drop (i + 1))).map wv)[a]? = some (wv ((unwC xs (tr.drop (i + 1))).getD a Cel.none)) := by simp [List.getD, unwC_len, hal]
        refine ⟨(World.cell?_setCell_other _ _ _ _ (by simp)).trans c0, ⟨_, ((World.cell?_setCell_other _ _ _ _ hne).trans e1).trans e2⟩, ?_⟩
        show (wr.setCell _ _).frozen? _ = false
        rw [World.frozen?_setCell]; exact r1.frozenAt a
      have HLN : Hid (lenAt wr h = i + 1) := by show _ = _; unfold lenAt; rw [c1]
      clear hh hfz ea hbg hgs HU0 HWB
      go_wp2_with fail
      refine HPO.mono ?_
      rintro e w2 ⟨rfl, n, rfl⟩
      obtain ⟨d0, ⟨u, d1⟩, d2⟩ := HC.out n
      have HF : Hid _ := HN.out n
      clear HPO HC HN c0 c1
      generalize ((wr.setCell ⟨h, 1, none⟩ (.slice pt i ct)).drewN n) = w2 at d0 d1 d2 HF ⊢
      go_wp2
      go_roundw
      case rel => exact ⟨i, by omega, by omega, HF⟩
      case measure =>
        have := HF.out.1
        rw [HLN.out]
        unfold lenAt
        simp [World.cell?, this]
    · obtain rfl : j = mark := by omega
      have hf0 := hfz 0
      have hlx : (unwX xs tr j top).length = top := by unfold unwX; rw [List.length_take, unwC_len]; simp; omega
      have hlt' : (unwT tr j).length = j := by unfold unwT; rw [List.length_take]; simp; omega
      have HFIN : Hid (HeapAt (wr.setCell ⟨h, 0, none⟩ (.slice pw top cw)) h (unwX xs tr j top) (unwT tr j) ∧ Below h w (wr.setCell ⟨h, 0, none⟩ (.slice pw top cw))) := by
        obtain ⟨q0, q1, q2, q3⟩ := HR.out
        refine ⟨⟨pw, cw, pt, ct, ?_, ?_, fun hn => ?_, fun hn => ?_⟩, q3.setCell (p := ⟨h, 0, none⟩) (Nat.le_refl _) _⟩
        · rw [hlx]; exact World.cell?_setCell_same _ _ _ c0
        · rw [hlt']; exact (World.cell?_setCell_other _ _ _ _ (by simp)).trans c1
        · rw [hlx] at hn
          obtain ⟨g, cap, hv, hbg, hgs⟩ := q1.form (by omega)
          simp only [Value.slice.injEq, true_and] at hv
          obtain ⟨rfl, rfl⟩ := hv
          refine ⟨g, rfl, fun i hi => ?_⟩
          rw [hlx] at hi
          have hne : (⟨h, 0, none⟩ : Addr) ≠ ⟨g, i, none⟩ := fun e => by have := congrArg Addr.block e; simp at this; omega
          rw [World.cell?_setCell_other _ _ _ _ hne, q1.cellAt i (by omega)]
          unfold unwX
          rw [take_at _ _ _ (by simpa using hi)]
          have hil : i < xs.length := by omega
          simp [List.getD, unwC_len, hil]
        · rw [hlt'] at hn
          obtain ⟨b, o, rfl, hz⟩ := (IIn.set q2 c0 (fun x => by simp) (.slice pw top cw)) (by omega)
          refine ⟨b, o, rfl, fun i hi => ?_⟩
          rw [hlt'] at hi
          rw [hz i (by omega)]
          unfold unwT
          have hij : i < j := hi
          simp [List.getD, hij]
      have hpw : pw = none → top = 0 := fun e => by
        rcases HR.out.2.1.2 with ⟨_, h'⟩ | ⟨g, cap, cur, hv, _⟩
        · omega
        · rw [e] at hv; simp at hv
      clear hh hfz HU0 HWB hlx hlt'
      cases pw with
      | none =>
        obtain rfl := hpw rfl
        clear hpw
        go_wp2
        refine bodyPost_end (v := .tuple #[]) (by simp [results, Try.results59, go_sem]) rfl ?_
        exact ⟨rfl, HFIN.out⟩
      | some ad =>
        clear hpw
        go_wp2
        refine bodyPost_end (v := .tuple #[]) (by simp [results, Try.results59, go_sem]) rfl ?_
        exact ⟨rfl, HFIN.out⟩

end Go.Proofs.Ytedkkghekboahaa

namespace Go.Proofs.Ytedkkghekboahaa
open Go Go.RowKit Go.Maps
set_option linter.unusedVariables false

theorem HeapO.look {w : World} {h : Nat} {xs : List Cel} {tr : List Int} {m : Nat} {lk : Int} (H : HeapO w h xs tr m lk) (lk' : Int) : HeapO (w.setCell ⟨h, 3, none⟩ (.int .i64 lk')) h xs tr m lk' := by
  obtain ⟨pw, cw, pt, ct, h0, h1, h2, h3⟩ := H
  refine ⟨pw, cw, pt, ct, ?_, ownsRow_setCell_other h1 (fun e => by have := (h1.lt _ e).1; simp at this; omega) _, ⟨h2.1, ownsRow_setCell_other h2.2 (fun e => by have := (h2.2.lt _ e).1; simp at this; omega) _⟩, h3⟩
  rw [heap_setCell_same _ _ _ _ _ _ h0]; rfl

/-- What standsIn answers. -/
def StandOut (xs : List Cel) (tr : List Int) (c : Cel) (goal h m lk N : Nat) (w : World) (e : Ending) (w' : World) : Prop :=
  ∃ (r : Bool) (N' : Nat) (mk' : Nat → Nat), e = .returned (.bool r) ∧ (r = true ↔ Rch xs goal c) ∧ HeapO w' h xs tr m ((lk + 1 : Nat) : Int) ∧ SMap w' m N' mk' ∧ (∀ o, mk' o ≤ lk + 1) ∧ N' ≤ N + xs.length ∧ Below m w w'

set_option maxHeartbeats 1000000 in
set_option maxRecDepth 100000 in
theorem standsIn_any (h m lk N goal : Nat) (xs : List Cel) (tr : List Int) (mk : Nat → Nat) (c : Cel) (w : World) (hs : Shp xs) (hg : goal < xs.length) (hlk : lk ≤ 1000000) (hN : N + xs.length ≤ 1000000000000) (hc : WdC xs c) (hmk : ∀ o, mk o ≤ lk) (H : HeapO w h xs tr m lk) (hm : SMap w m N mk) :
    Calls Try.prog 90 #[.pointer (some ⟨h, 0, none⟩), .int .i64 goal, wv c] w (StandOut xs tr c goal h m lk N w) := by
  have hH := H.lt
  obtain ⟨pw, cw, pt, ct, hblk, _, _, hmh⟩ := id H
  have c3 : w.cell? ⟨h, 3, none⟩ = some (.int .i64 lk) := by simp [World.cell?, hblk]
  have f3 : w.frozen? ⟨h, 3, none⟩ = false := frozen_of_row _ _ _ _ _ hblk
  have H1 := H.look ((lk + 1 : Nat) : Int)
  have hm1 : SMap (w.setCell ⟨h, 3, none⟩ (.int .i64 ((lk + 1 : Nat) : Int))) m N mk := hm.of_block (heap_setCell_other _ _ _ _ (by simp; omega))
  have hu := unk_top xs.length (mkB mk (lk + 1))
  have HR := reaches_any h m (lk + 1) goal xs tr hs hg (by omega) (xs.length + 1) N mk c _ hc (by omega) (by omega) H1 hm1
  have HB : Hid (Below m w (w.setCell ⟨h, 3, none⟩ (.int .i64 ((lk + 1 : Nat) : Int)))) := (Below.refl _ _).setCell (p := ⟨h, 3, none⟩) (by simp; omega) _
  have HO : Hid _ := H1
  have HMK : Hid (∀ o, mk o ≤ lk) := hmk
  have HU : Hid (unk xs.length (mkB mk (lk + 1)) ≤ xs.length) := hu
  have hsz : m ≤ (w.setCell ⟨h, 3, none⟩ (.int .i64 ((lk + 1 : Nat) : Int))).heap.size := by simp; omega
  have HSZ : Hid _ := hsz
  have e1 : ((lk + 1 : Nat) : Int) = (lk : Int) + 1 := by omega
  rw [e1] at HR HB HO HSZ
  generalize wv c = v at HR ⊢
  clear H1 hm1 hblk hs hc hmk H hm hu hsz
  go_enter Try.func90, Try.ntmps90
  go_wp2_with fail
  refine HR.mono ?_
  rintro e w2 ⟨r, N2, mk2, rfl, hk, hm2, hn, ho, hr1, hr0⟩
  have HK : Hid (Keep m (m + 1) _ w2) := hk
  have HF : Hid (SMap w2 m N2 mk2 ∧ N2 + unk xs.length (mkB mk2 (lk + 1)) ≤ N + unk xs.length (mkB mk (lk + 1)) ∧ (∀ o, mk2 o = mk o ∨ mk2 o = lk + 1)) := ⟨hm2, hn, ho⟩
  have HRR : Hid ((r = true → Rch xs goal c) ∧ (r = false → (∀ y, Beh xs c y → OkY xs goal (lk + 1) mk2 y) ∧ ∀ o, mk2 o = lk + 1 → mk o ≠ lk + 1 → ∀ y, Beh xs (xs.getD o Cel.none) y → OkY xs goal (lk + 1) mk2 y)) := ⟨hr1, hr0⟩
  clear hk hm2 hn ho hr1 hr0 HR
  go_wp2_with fail
  go_ret
  obtain ⟨q1, q2, q3⟩ := HF.out
  refine ⟨r, N2, mk2, rfl, ⟨HRR.out.1, fun hrch => ?_⟩, by rw [e1]; exact HeapO.keep HO.out HK.out, q1, fun o => ?_, by have := HU.out; omega, HB.out.trans (HK.out.below (Nat.le_refl _) HSZ.out)⟩
  · cases r with
    | true => rfl
    | false =>
      obtain ⟨a1, a2⟩ := HRR.out.2 rfl
      refine absurd hrch (rch_no (V := fun o => mk2 o = lk + 1) (fun x hx y hy => ?_) (fun y hy => ?_))
      · exact a2 x hx (by have := HMK.out x; omega) y hy
      · exact a1 y hy
  · have := HMK.out o
    rcases q3 o with e | e <;> omega

theorem app_trail1 (w : World) (ty : TypeId) (B : Nat) (pt : Option Addr) (ct b : Nat) (tr : List Int) (z : Int) (hl : tr.length ≤ 20000) (hB : B ≤ w.heap.size) (ho : OwnI w B 3 pt tr.length ct tr) (hz : w.cell? ⟨b, 0, none⟩ = some (.int .i64 z)) :
    ∃ g cap w1, (Builtin.append_ #[90, 23] ty #[.slice pt tr.length ct, .slice (some ⟨b, 0, none⟩) 1 1]).run Try.prog w = .ok (.slice (some ⟨g, 0, none⟩) (tr.length + 1) cap) w1 ∧ OwnI w1 B 3 (some ⟨g, 0, none⟩) (tr.length + 1) cap (tr ++ [z]) ∧ w.grownBy w1 (Value.ownBlock (.slice pt tr.length ct)) := by
  obtain ⟨i0, hi, hz0, hz1, hz2⟩ := info_parts infoInt
  obtain ⟨g', cap, w', hr, h2, h3, _, _⟩ := run_append_lies (P := Try.prog) w 90 ty B 3 i0 (.int .i64 0) 1 8 Try.underlying90 hi hz0 hz1 hz2 rfl (by decide) (.slice pt tr.length ct) tr.length (tr.map (Value.int .i64)) ho.2 ⟨b, 0, none⟩ 1 1 [.int .i64 z] rfl
    (fun j u hj => by
      cases j with
      | zero => simp at hj; subst hj; rw [show (⟨b, 0, none⟩ : Addr).add 0 = ⟨b, 0 + 0, none⟩ from WideShapes.add_plain _ _ _]; exact hz
      | succ j => simp at hj) (ints_oneCell .i64 [z]) (by decide) (by unfold maxLen; omega) (by omega) hB _ rfl
  have e : (Builtin.append_ #[90, 23] ty #[.slice pt tr.length ct, .slice (some ⟨b, 0, none⟩) 1 1]).run Try.prog w = (Builtin.append_ #[90, 90] ty #[.slice pt tr.length ct, .slice (some ⟨b, 0, none⟩) 1 1]).run Try.prog w := by
    simp [Builtin.append_, run_underlying Try.underlying90, run_underlying Try.underlying23]
  exact ⟨g', cap, w', e.trans hr, ⟨by simp, by rw [List.map_append]; exact h2⟩, h3⟩

set_option maxRecDepth 100000 in
theorem push1_any (h B : Nat) (pt : Option Addr) (ct b : Nat) (tr : List Int) (z : Int) (w : World) (hl : tr.length ≤ 20000) (hB : B ≤ w.heap.size) (h0 : w.cell? ⟨h, 1, none⟩ = some (.slice pt tr.length ct)) (hf : w.frozen? ⟨h, 1, none⟩ = false) (hne : Value.ownBlock (.slice pt tr.length ct) ≠ some h) (ho : OwnI w B 3 pt tr.length ct tr) (hz : w.cell? ⟨b, 0, none⟩ = some (.int .i64 z)) :
    Calls Try.prog 82 #[.pointer (some ⟨h, 1, none⟩), .slice (some ⟨b, 0, none⟩) 1 1] w fun e w' => e = .returned (.tuple #[]) ∧ ∃ g ct' w1, w' = w1.setCell ⟨h, 1, none⟩ (.slice (some ⟨g, 0, none⟩) (tr.length + 1) ct') ∧ OwnI w1 B 3 (some ⟨g, 0, none⟩) (tr.length + 1) ct' (tr ++ [z]) ∧ w.grownBy w1 (Value.ownBlock (.slice pt tr.length ct)) := by
  obtain ⟨g, cap, w1, hr, hown, hg⟩ := app_trail1 w 90 B pt ct b tr z hl hB ho hz
  have hb := hg.block h (World.block_lt_of_cell? _ _ h0) (fun e => hne e.symm)
  have h1 : w1.cell? ⟨h, 1, none⟩ = some (.slice pt tr.length ct) := by rw [← h0]; simp only [World.cell?, hb]
  have f1 : w1.frozen? ⟨h, 1, none⟩ = false := by rw [← hf]; simp only [World.frozen?, hb]
  have HF : Hid (OwnI w1 B 3 (some ⟨g, 0, none⟩) (tr.length + 1) cap (tr ++ [z]) ∧ w.grownBy w1 (Value.ownBlock (.slice pt tr.length ct))) := ⟨hown, hg⟩
  clear hb hown hg ho hz hne hf
  go_enter Try.func82, Try.ntmps82
  go_wp2_with (at_builtin; refine wpList_app_run rfl _ _ _ _ rfl _ _ _ _ _ rfl rfl hr ?_)
  refine bodyPost_end (v := .tuple #[]) (by simp [results, Try.results82, go_sem]) rfl ?_
  exact ⟨rfl, g, cap, w1, rfl, HF.out⟩

theorem row_ne {w : World} {B B' s s' : Nat} {t t' : TypeId} {v v' : Value} {n n' : Nat} {xs xs' : List Value} (h : w.ownsRow B t s v n xs) (h' : w.ownsRow B' t' s' v' n' xs') (ht : t ≠ t') {g : Nat} (e : Value.ownBlock v = some g) : Value.ownBlock v' ≠ some g := fun e' => by
  rcases h.2 with ⟨rfl, _⟩ | ⟨g1, c1, cur1, rfl, _, h1, _⟩
  · cases e
  · rcases h'.2 with ⟨rfl, _⟩ | ⟨g2, c2, cur2, rfl, _, h2, _⟩
    · cases e'
    · simp only [Value.ownBlock, Option.some.injEq] at e e'
      subst e; subst e'
      rw [h1] at h2
      simp only [Option.some.injEq, Obj.cells.injEq] at h2
      exact ht h2.2.1
/-- A word of the heap set anew. -/
theorem HeapO.setW {w : World} {h : Nat} {xs : List Cel} {tr : List Int} {m : Nat} {lk : Int} (H : HeapO w h xs tr m lk) {g n cw : Nat} (c0 : w.cell? ⟨h, 0, none⟩ = some (.slice (some ⟨g, 0, none⟩) n cw)) (a : Nat) (c : Cel) : HeapO (w.setCell ⟨g, a, none⟩ (wv c)) h (xs.set a c) tr m lk ∧ h + 1 ≤ g := by
  obtain ⟨pw, cw', pt, ct, h0, h1, h2, h3⟩ := H
  have e : w.cell? ⟨h, 0, none⟩ = some (.slice pw xs.length cw') := by simp [World.cell?, h0]
  rw [e] at c0
  simp only [Option.some.injEq, Value.slice.injEq] at c0
  obtain ⟨rfl, rfl, rfl⟩ := c0
  have hg := h1.lt g rfl
  refine ⟨⟨some ⟨g, 0, none⟩, cw', pt, ct, ?_, ?_, ⟨h2.1, ownsRow_setCell_other h2.2 (show Value.ownBlock _ ≠ some (⟨g, a, none⟩ : Addr).block from row_ne h1 h2.2 (by decide) rfl) _⟩, h3⟩, hg.1⟩
  · rw [heap_setCell_other _ _ _ _ (by simp; omega), List.length_set]; exact h0
  · rw [List.length_set, map_set_wv]; exact (h1.stored a (wv c)).1
theorem HeapO.pushed {w w1 : World} {h : Nat} {xs : List Cel} {tr : List Int} {m : Nat} {lk : Int} (H : HeapO w h xs tr m lk) {pt : Option Addr} {ct : Nat} (c1 : w.cell? ⟨h, 1, none⟩ = some (.slice pt tr.length ct)) (hg : w.grownBy w1 (Value.ownBlock (.slice pt tr.length ct))) {g ct' : Nat} {z : Int} (ho : OwnI w1 (h + 1) 3 (some ⟨g, 0, none⟩) (tr.length + 1) ct' (tr ++ [z])) :
    HeapO (w1.setCell ⟨h, 1, none⟩ (.slice (some ⟨g, 0, none⟩) (tr.length + 1) ct')) h xs (tr ++ [z]) m lk := by
  have hl := H.lt
  obtain ⟨pw, cw, pt', ct2, h0, h1, h2, h3⟩ := H
  have e : w.cell? ⟨h, 1, none⟩ = some (.slice pt' tr.length ct2) := by simp [World.cell?, h0]
  rw [e] at c1
  simp only [Option.some.injEq, Value.slice.injEq, true_and] at c1
  obtain ⟨rfl, rfl⟩ := c1
  have hk : ∀ k, Value.ownBlock (.slice pt' tr.length ct2) = some k → h + 1 ≤ k := fun k e => (h2.2.lt k e).1
  have b0 := hg.block h hl (fun e => by have := hk h e.symm; omega)
  have r1 : w1.ownsRow (h + 1) 70 1 (.slice pw xs.length cw) xs.length (xs.map wv) := by
    refine ⟨h1.1, ?_⟩
    rcases h1.2 with h' | ⟨g1, cap, cur, hv, hB, hgg, r⟩
    · exact .inl h'
    · exact .inr ⟨g1, cap, cur, hv, hB, (hg.block g1 (Array.getElem?_eq_some_iff.1 hgg).1 (fun e => row_ne h1 h2.2 (by decide) (g := g1) (by rw [hv]; rfl) e.symm)).trans hgg, r⟩
  have hle : (tr ++ [z]).length = tr.length + 1 := by simp
  refine ⟨pw, cw, some ⟨g, 0, none⟩, ct', ?_, ownsRow_setCell_other r1 (fun e => by have := (r1.lt _ e).1; simp at this; omega) _, ?_, h3⟩
  · rw [heap_setCell_same _ _ _ _ _ _ (b0.trans h0), hle]; rfl
  · rw [hle]
    exact ⟨ho.1, ownsRow_setCell_other ho.2 (fun e => by have := (ho.2.lt _ e).1; simp at this; omega) _⟩

end Go.Proofs.Ytedkkghekboahaa

