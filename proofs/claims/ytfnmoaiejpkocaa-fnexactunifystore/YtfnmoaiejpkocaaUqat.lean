/- Texts of UwI, BdK, BdL1. Own work of the verifier. -/
import Derived.Test.YtfnmoaiejpkocaaUqap
import Derived.Test.YtfnmoaiejpkocaaUqas
namespace Go.Proofs.Ytfnmoaiejpkocaa
open Go Go.RowKit Go.Maps
set_option linter.unusedVariables false

theorem IIn.set {w : World} {p : Option Addr} {zs : List Int} (h : IIn w p zs) {a : Addr} {u : Value} (hc : w.cell? a = some u) (hu : ∀ x, u ≠ .int .i64 x) (v : Value) : IIn (w.setCell a v) p zs := fun hn => by
  obtain ⟨b, o, rfl, hz⟩ := h hn
  refine ⟨b, o, rfl, fun i hi => ?_⟩
  rw [World.cell?_setCell_other _ _ _ _ (fun e => by rw [e] at hc; rw [hz i hi] at hc; exact hu _ (Option.some.inj hc).symm)]
  exact hz i hi
set_option maxRecDepth 100000 in
theorem pop_any (h : Nat) (pt : Option Addr) (j ct : Nat) (zs : List Int) (w : World) (hj : j < zs.length) (hz : zs.length ≤ 20000) (hct : j + 1 ≤ ct) (h1 : w.cell? ⟨h, 1, none⟩ = some (.slice pt (j + 1 : Nat) ct)) (hf : w.frozen? ⟨h, 1, none⟩ = false) (hi : IIn w pt zs) :
    Calls Try.prog 83 #[.pointer (some ⟨h, 1, none⟩)] w fun e w' => e = .returned (.int .i64 (zs.getD j 0)) ∧ ∃ n, w' = (w.setCell ⟨h, 1, none⟩ (.slice pt j ct)).drewN n := by
  obtain ⟨b, o, rfl, hc⟩ := hi (by omega)
  have hv := hc j hj
  generalize zs.getD j 0 = z at hv ⊢
  have hjb : j < 20000 := by omega
  clear hc hi hj hz
  go_enter Try.func83, Try.ntmps83
  go_wp2
  go_ret
  exact ⟨rfl, 0, rfl⟩

/-- The heap while it is unwound: the trail has j addresses yet. -/
def HU (w0 w : World) (h : Nat) (xs : List Cel) (tr : List Int) (pw pt : Option Addr) (cw ct m : Nat) (lk : Int) (j : Nat) : Prop :=
  w.heap[h]? = some (.cells #[.slice pw xs.length cw, .slice pt j ct, .map (some m), .int .i64 lk] 93) ∧ w.ownsRow (h + 1) 70 1 (.slice pw xs.length cw) xs.length ((unwC xs (tr.drop j)).map wv) ∧ IIn w pt tr ∧ Below h w0 w
theorem map_set_wv (ys : List Cel) (i : Nat) (c : Cel) : (ys.set i c).map wv = (ys.map wv).set i (wv c) := by rw [List.map_set]
/-- The length of the trail as it lies. -/
def lenAt (w : World) (h : Nat) : Nat := match w.cell? ⟨h, 1, none⟩ with
  | some (.slice _ n _) => n
  | _ => 0
theorem wv_ref (i : Int) : wv (0, i, []) = .iface 100 (.int .i64 i) := rfl
theorem HU.pop {w0 w : World} {h : Nat} {xs : List Cel} {tr : List Int} {pw pt : Option Addr} {cw ct m : Nat} {lk : Int} {j a g : Nat} (H : HU w0 w h xs tr pw pt cw ct m lk (j + 1)) (hj : j < tr.length) (ha : tr.getD j 0 = (a : Int)) (hal : a < xs.length) (hp : pw = some ⟨g, 0, none⟩) (n : Nat) :
    HU w0 (((w.setCell ⟨h, 1, none⟩ (.slice pt j ct)).drewN n).setCell ⟨g, a, none⟩ (.iface 100 (.int .i64 (a : Int)))) h xs tr pw pt cw ct m lk j := by
  obtain ⟨h0, h1, h2, h3⟩ := H
  subst hp
  have hg := h1.lt g rfl
  have hgh : g ≠ h := by omega
  have c1 : w.cell? ⟨h, 1, none⟩ = some (.slice pt (j + 1 : Nat) ct) := by simp [World.cell?, h0]
  have r1 : ((w.setCell ⟨h, 1, none⟩ (.slice pt j ct)).drewN n).ownsRow (h + 1) 70 1 (.slice (some ⟨g, 0, none⟩) xs.length cw) xs.length ((unwC xs (tr.drop (j + 1))).map wv) := ownsRow_setCell_other h1 (fun e => by simp [Value.ownBlock] at e; omega) _
  have cg : ((w.setCell ⟨h, 1, none⟩ (.slice pt j ct)).drewN n).cell? ⟨g, a, none⟩ = some (wv ((unwC xs (tr.drop (j + 1))).getD a Cel.none)) := by
    rw [r1.cellAt a (by simpa using hal)]
    simp [List.getD, unwC_len, hal]
  refine ⟨?_, ?_, ?_, ?_⟩
  · rw [heap_setCell_other _ _ _ _ (by simp; omega)]
    show (w.setCell ⟨h, 1, none⟩ (.slice pt j ct)).heap[h]? = _
    rw [heap_setCell_same _ _ _ _ _ _ h0]; rfl
  · have hs := (r1.stored a (.iface 100 (.int .i64 (a : Int)))).1
    rw [drop_int tr j hj, ha, ← unwC_cons xs _ a hal, map_set_wv, wv_ref]
    exact hs
  · refine IIn.set (u := wv ((unwC xs (tr.drop (j + 1))).getD a Cel.none)) ?_ cg (fun x => ?_) _
    · exact IIn.set h2 c1 (fun x => by simp) _
    · obtain ⟨ty, y, e⟩ := wv_iface ((unwC xs (tr.drop (j + 1))).getD a Cel.none)
      rw [e]; simp
  · exact (below_drewN (h3.setCell (p := ⟨h, 1, none⟩) (Nat.le_refl _) _) n).setCell (p := ⟨g, a, none⟩) (by simp; omega) _

set_option maxHeartbeats 1000000 in
set_option maxRecDepth 100000 in
theorem unwind_any (h : Nat) (xs : List Cel) (tr : List Int) (m : Nat) (lk : Int) (mark top : Nat) (w : World) (hl : xs.length ≤ 20000) (ht : tr.length ≤ 20000) (hm : mark ≤ tr.length) (hp : top ≤ xs.length) (hw : tr.all (isWB xs) = true) (H : HeapO w h xs tr m lk) :
    Calls Try.prog 59 #[.pointer (some ⟨h, 0, none⟩), .int .i64 mark, .int .i64 top] w fun e w' => e = .returned (.tuple #[]) ∧ HeapAt w' h (unwX xs tr mark top) (unwT tr mark) ∧ Below h w w' := by
  obtain ⟨pw, cw, pt, ct, h0, h1, h2, hmh⟩ := H
  have hct : tr.length ≤ ct := by
    rcases h2.2.2 with ⟨e, h'⟩ | ⟨g, cap, cur, hv, _, _, hc, _⟩
    · omega
    · simp only [Value.slice.injEq] at hv; omega
  have hcw : xs.length ≤ cw := by
    rcases h1.2 with ⟨e, h'⟩ | ⟨g, cap, cur, hv, _, _, hc, _⟩
    · omega
    · simp only [Value.slice.injEq] at hv; omega
  have HU0 : Hid (HU w w h xs tr pw pt cw ct m lk tr.length) := by
    refine ⟨h0, ?_, h2.iin, Below.refl _ _⟩
    rw [List.drop_length, unwC_nil]; exact h1
  have HWB : Hid (∀ j, j < tr.length → ∃ a : Nat, tr.getD j 0 = (a : Int) ∧ a < xs.length) := fun j hj => by
    have := List.all_eq_true.1 hw (tr.getD j 0) (by simp [List.getD, hj])
    simp only [isWB, decide_eq_true_eq] at this
    exact ⟨(tr.getD j 0).toNat, by omega, by omega⟩
  clear h0 h1 h2 hw hmh
  go_enter Try.func59, Try.ntmps59
  go_wp2
  go_loopw [] (fun wr => ∃ j, mark ≤ j ∧ j ≤ tr.length ∧ Hid (HU w wr h xs tr pw pt cw ct m lk j)) (fun wr => lenAt wr h)
  case atStart => exact ⟨tr.length, hm, Nat.le_refl _, HU0⟩
  case round =>
    obtain ⟨j, hj1, hj2, HR⟩ := hrel
    have hh := HR.out.1
    have c0 : wr.cell? ⟨h, 0, none⟩ = some (.slice pw xs.length cw) := by simp [World.cell?, hh]
    have c1 : wr.cell? ⟨h, 1, none⟩ = some (.slice pt j ct) := by simp [World.cell?, hh]
    have hfz : ∀ i, wr.frozen? ⟨h, i, none⟩ = false := fun i => frozen_of_row _ _ _ _ _ hh
    by_cases hlt : mark < j
    · obtain ⟨i, rfl⟩ : ∃ i, j = i + 1 := ⟨j - 1, by omega⟩
      obtain ⟨a, ea, hal⟩ := HWB.out i (by omega)
      have HPO := pop_any h pt i ct tr wr (by omega) ht (by omega) c1 (hfz 1) HR.out.2.2.1
      rw [ea] at HPO
      obtain ⟨g, cap, hv, hbg, hgs⟩ := HR.out.2.1.form (by omega)
      simp only [Value.slice.injEq, true_and] at hv
      obtain ⟨rfl, rfl⟩ := hv
      have HN : Hid (∀ n, HU w (((wr.setCell ⟨h, 1, none⟩ (.slice pt i ct)).drewN n).setCell ⟨g, a, none⟩ (.iface 100 (.int .i64 (a : Int)))) h xs tr (some ⟨g, 0, none⟩) pt cw ct m lk i) := fun n => HR.out.pop (by omega) ea hal rfl n
      have HC : Hid (∀ n, ((wr.setCell ⟨h, 1, none⟩ (.slice pt i ct)).drewN n).cell? ⟨h, 0, none⟩ = some (.slice (some ⟨g, 0, none⟩) xs.length cw) ∧ (∃ u, ((wr.setCell ⟨h, 1, none⟩ (.slice pt i ct)).drewN n).cell? ⟨g, a, none⟩ = some u) ∧ ((wr.setCell ⟨h, 1, none⟩ (.slice pt i ct)).drewN n).frozen? ⟨g, a, none⟩ = false) := fun n => by
        have r1 := HR.out.2.1
        have hne : (⟨h, 1, none⟩ : Addr) ≠ ⟨g, a, none⟩ := fun e => by have := congrArg Addr.block e; simp at this; omega
        have e1 := r1.cellAt a (by simpa using hal)
        have e2 : ((unwC xs (tr.drop (i + 1))).map wv)[a]? = some (wv ((unwC xs (tr.drop (i + 1))).getD a Cel.none)) := by simp [List.getD, unwC_len, hal]
        refine ⟨(World.cell?_setCell_other _ _ _ _ (by simp)).trans c0, ⟨_, ((World.cell?_setCell_other _ _ _ _ hne).trans e1).trans e2⟩, ?_⟩
        show (wr.setCell _ _).frozen? _ = false
        rw [World.frozen?_setCell]; exact r1.frozenAt a
      have HLN : Hid (lenAt wr h = i + 1) := by show _ = _; unfold lenAt; rw [c1]
      clear hh hfz ea hbg hgs HU0 HWB
      go_wp2_with fail
      refine HPO.mono ?_
      rintro e w2 ⟨rfl, n, rfl⟩
      obtain ⟨d0, ⟨u, d1⟩, d2⟩ := HC.out n
      have HF : Hid _ := HN.out n
      clear HPO HC HN c0 c1
      generalize ((wr.setCell ⟨h, 1, none⟩ (.slice pt i ct)).drewN n) = w2 at d0 d1 d2 HF ⊢
      go_wp2
      go_roundw
      case rel => exact ⟨i, by omega, by omega, HF⟩
      case measure =>
        have := HF.out.1
        rw [HLN.out]
        unfold lenAt
        simp [World.cell?, this]
    · obtain rfl : j = mark := by omega
      have hf0 := hfz 0
      have hlx : (unwX xs tr j top).length = top := by unfold unwX; rw [List.length_take, unwC_len]; simp; omega
      have hlt' : (unwT tr j).length = j := by unfold unwT; rw [List.length_take]; simp; omega
      have HFIN : Hid (HeapAt (wr.setCell ⟨h, 0, none⟩ (.slice pw top cw)) h (unwX xs tr j top) (unwT tr j) ∧ Below h w (wr.setCell ⟨h, 0, none⟩ (.slice pw top cw))) := by
        obtain ⟨q0, q1, q2, q3⟩ := HR.out
        refine ⟨⟨pw, cw, pt, ct, ?_, ?_, fun hn => ?_, fun hn => ?_⟩, q3.setCell (p := ⟨h, 0, none⟩) (Nat.le_refl _) _⟩
        · rw [hlx]; exact World.cell?_setCell_same _ _ _ c0
        · rw [hlt']; exact (World.cell?_setCell_other _ _ _ _ (by simp)).trans c1
        · rw [hlx] at hn
          obtain ⟨g, cap, hv, hbg, hgs⟩ := q1.form (by omega)
          simp only [Value.slice.injEq, true_and] at hv
          obtain ⟨rfl, rfl⟩ := hv
          refine ⟨g, rfl, fun i hi => ?_⟩
          rw [hlx] at hi
          have hne : (⟨h, 0, none⟩ : Addr) ≠ ⟨g, i, none⟩ := fun e => by have := congrArg Addr.block e; simp at this; omega
          rw [World.cell?_setCell_other _ _ _ _ hne, q1.cellAt i (by omega)]
          unfold unwX
          rw [take_at _ _ _ (by simpa using hi)]
          have hil : i < xs.length := by omega
          simp [List.getD, unwC_len, hil]
        · rw [hlt'] at hn
          obtain ⟨b, o, rfl, hz⟩ := (IIn.set q2 c0 (fun x => by simp) (.slice pw top cw)) (by omega)
          refine ⟨b, o, rfl, fun i hi => ?_⟩
          rw [hlt'] at hi
          rw [hz i (by omega)]
          unfold unwT
          have hij : i < j := hi
          simp [List.getD, hij]
      have hpw : pw = none → top = 0 := fun e => by
        rcases HR.out.2.1.2 with ⟨_, h'⟩ | ⟨g, cap, cur, hv, _⟩
        · omega
        · rw [e] at hv; simp at hv
      clear hh hfz HU0 HWB hlx hlt'
      cases pw with
      | none =>
        obtain rfl := hpw rfl
        clear hpw
        go_wp2
        refine bodyPost_end (v := .tuple #[]) (by simp [results, Try.results59, go_sem]) rfl ?_
        exact ⟨rfl, HFIN.out⟩
      | some ad =>
        clear hpw
        go_wp2
        refine bodyPost_end (v := .tuple #[]) (by simp [results, Try.results59, go_sem]) rfl ?_
        exact ⟨rfl, HFIN.out⟩

end Go.Proofs.Ytfnmoaiejpkocaa

namespace Go.Proofs.Ytfnmoaiejpkocaa
open Go Go.RowKit Go.Maps
set_option linter.unusedVariables false

theorem HeapO.look {w : World} {h : Nat} {xs : List Cel} {tr : List Int} {m : Nat} {lk : Int} (H : HeapO w h xs tr m lk) (lk' : Int) : HeapO (w.setCell ⟨h, 3, none⟩ (.int .i64 lk')) h xs tr m lk' := by
  obtain ⟨pw, cw, pt, ct, h0, h1, h2, h3⟩ := H
  refine ⟨pw, cw, pt, ct, ?_, ownsRow_setCell_other h1 (fun e => by have := (h1.lt _ e).1; simp at this; omega) _, ⟨h2.1, ownsRow_setCell_other h2.2 (fun e => by have := (h2.2.lt _ e).1; simp at this; omega) _⟩, h3⟩
  rw [heap_setCell_same _ _ _ _ _ _ h0]; rfl

/-- What standsIn answers. -/
def StandOut (xs : List Cel) (tr : List Int) (c : Cel) (goal h m lk N : Nat) (w : World) (e : Ending) (w' : World) : Prop :=
  ∃ (r : Bool) (N' : Nat) (mk' : Nat → Nat), e = .returned (.bool r) ∧ (r = true ↔ Rch xs goal c) ∧ HeapO w' h xs tr m ((lk + 1 : Nat) : Int) ∧ SMap w' m N' mk' ∧ (∀ o, mk' o ≤ lk + 1) ∧ N' ≤ N + xs.length ∧ Below m w w'

set_option maxHeartbeats 1000000 in
set_option maxRecDepth 100000 in
theorem standsIn_any (h m lk N goal : Nat) (xs : List Cel) (tr : List Int) (mk : Nat → Nat) (c : Cel) (w : World) (hs : Shp xs) (hg : goal < xs.length) (hlk : lk ≤ 1000000) (hN : N + xs.length ≤ 1000000000000) (hc : WdC xs c) (hmk : ∀ o, mk o ≤ lk) (H : HeapO w h xs tr m lk) (hm : SMap w m N mk) :
    Calls Try.prog 90 #[.pointer (some ⟨h, 0, none⟩), .int .i64 goal, wv c] w (StandOut xs tr c goal h m lk N w) := by
  have hH := H.lt
  obtain ⟨pw, cw, pt, ct, hblk, _, _, hmh⟩ := id H
  have c3 : w.cell? ⟨h, 3, none⟩ = some (.int .i64 lk) := by simp [World.cell?, hblk]
  have f3 : w.frozen? ⟨h, 3, none⟩ = false := frozen_of_row _ _ _ _ _ hblk
  have H1 := H.look ((lk + 1 : Nat) : Int)
  have hm1 : SMap (w.setCell ⟨h, 3, none⟩ (.int .i64 ((lk + 1 : Nat) : Int))) m N mk := hm.of_block (heap_setCell_other _ _ _ _ (by simp; omega))
  have hu := unk_top xs.length (mkB mk (lk + 1))
  have HR := reaches_any h m (lk + 1) goal xs tr hs hg (by omega) (xs.length + 1) N mk c _ hc (by omega) (by omega) H1 hm1
  have HB : Hid (Below m w (w.setCell ⟨h, 3, none⟩ (.int .i64 ((lk + 1 : Nat) : Int)))) := (Below.refl _ _).setCell (p := ⟨h, 3, none⟩) (by simp; omega) _
  have HO : Hid _ := H1
  have HMK : Hid (∀ o, mk o ≤ lk) := hmk
  have HU : Hid (unk xs.length (mkB mk (lk + 1)) ≤ xs.length) := hu
  have hsz : m ≤ (w.setCell ⟨h, 3, none⟩ (.int .i64 ((lk + 1 : Nat) : Int))).heap.size := by simp; omega
  have HSZ : Hid _ := hsz
  have e1 : ((lk + 1 : Nat) : Int) = (lk : Int) + 1 := by omega
  rw [e1] at HR HB HO HSZ
  generalize wv c = v at HR ⊢
  clear H1 hm1 hblk hs hc hmk H hm hu hsz
  go_enter Try.func90, Try.ntmps90
  go_wp2_with fail
  refine HR.mono ?_
  rintro e w2 ⟨r, N2, mk2, rfl, hk, hm2, hn, ho, hr1, hr0⟩
  have HK : Hid (Keep m (m + 1) _ w2) := hk
  have HF : Hid (SMap w2 m N2 mk2 ∧ N2 + unk xs.length (mkB mk2 (lk + 1)) ≤ N + unk xs.length (mkB mk (lk + 1)) ∧ (∀ o, mk2 o = mk o ∨ mk2 o = lk + 1)) := ⟨hm2, hn, ho⟩
  have HRR : Hid ((r = true → Rch xs goal c) ∧ (r = false → (∀ y, Beh xs c y → OkY xs goal (lk + 1) mk2 y) ∧ ∀ o, mk2 o = lk + 1 → mk o ≠ lk + 1 → ∀ y, Beh xs (xs.getD o Cel.none) y → OkY xs goal (lk + 1) mk2 y)) := ⟨hr1, hr0⟩
  clear hk hm2 hn ho hr1 hr0 HR
  go_wp2_with fail
  go_ret
  obtain ⟨q1, q2, q3⟩ := HF.out
  refine ⟨r, N2, mk2, rfl, ⟨HRR.out.1, fun hrch => ?_⟩, by rw [e1]; exact HeapO.keep HO.out HK.out, q1, fun o => ?_, by have := HU.out; omega, HB.out.trans (HK.out.below (Nat.le_refl _) HSZ.out)⟩
  · cases r with
    | true => rfl
    | false =>
      obtain ⟨a1, a2⟩ := HRR.out.2 rfl
      refine absurd hrch (rch_no (V := fun o => mk2 o = lk + 1) (fun x hx y hy => ?_) (fun y hy => ?_))
      · exact a2 x hx (by have := HMK.out x; omega) y hy
      · exact a1 y hy
  · have := HMK.out o
    rcases q3 o with e | e <;> omega

theorem app_trail1 (w : World) (ty : TypeId) (B : Nat) (pt : Option Addr) (ct b : Nat) (tr : List Int) (z : Int) (hl : tr.length ≤ 20000) (hB : B ≤ w.heap.size) (ho : OwnI w B 3 pt tr.length ct tr) (hz : w.cell? ⟨b, 0, none⟩ = some (.int .i64 z)) :
    ∃ g cap w1, (Builtin.append_ #[90, 23] ty #[.slice pt tr.length ct, .slice (some ⟨b, 0, none⟩) 1 1]).run Try.prog w = .ok (.slice (some ⟨g, 0, none⟩) (tr.length + 1) cap) w1 ∧ OwnI w1 B 3 (some ⟨g, 0, none⟩) (tr.length + 1) cap (tr ++ [z]) ∧ w.grownBy w1 (Value.ownBlock (.slice pt tr.length ct)) := by
  obtain ⟨i0, hi, hz0, hz1, hz2⟩ := info_parts infoInt
  obtain ⟨g', cap, w', hr, h2, h3, _, _⟩ := run_append_lies (P := Try.prog) w 90 ty B 3 i0 (.int .i64 0) 1 8 Try.underlying90 hi hz0 hz1 hz2 rfl (by decide) (.slice pt tr.length ct) tr.length (tr.map (Value.int .i64)) ho.2 ⟨b, 0, none⟩ 1 1 [.int .i64 z] rfl
    (fun j u hj => by
      cases j with
      | zero => simp at hj; subst hj; rw [show (⟨b, 0, none⟩ : Addr).add 0 = ⟨b, 0 + 0, none⟩ from WideShapes.add_plain _ _ _]; exact hz
      | succ j => simp at hj) (ints_oneCell .i64 [z]) (by decide) (by unfold maxLen; omega) (by omega) hB _ rfl
  have e : (Builtin.append_ #[90, 23] ty #[.slice pt tr.length ct, .slice (some ⟨b, 0, none⟩) 1 1]).run Try.prog w = (Builtin.append_ #[90, 90] ty #[.slice pt tr.length ct, .slice (some ⟨b, 0, none⟩) 1 1]).run Try.prog w := by
    simp [Builtin.append_, run_underlying Try.underlying90, run_underlying Try.underlying23]
  exact ⟨g', cap, w', e.trans hr, ⟨by simp, by rw [List.map_append]; exact h2⟩, h3⟩

set_option maxRecDepth 100000 in
theorem push1_any (h B : Nat) (pt : Option Addr) (ct b : Nat) (tr : List Int) (z : Int) (w : World) (hl : tr.length ≤ 20000) (hB : B ≤ w.heap.size) (h0 : w.cell? ⟨h, 1, none⟩ = some (.slice pt tr.length ct)) (hf : w.frozen? ⟨h, 1, none⟩ = false) (hne : Value.ownBlock (.slice pt tr.length ct) ≠ some h) (ho : OwnI w B 3 pt tr.length ct tr) (hz : w.cell? ⟨b, 0, none⟩ = some (.int .i64 z)) :
    Calls Try.prog 82 #[.pointer (some ⟨h, 1, none⟩), .slice (some ⟨b, 0, none⟩) 1 1] w fun e w' => e = .returned (.tuple #[]) ∧ ∃ g ct' w1, w' = w1.setCell ⟨h, 1, none⟩ (.slice (some ⟨g, 0, none⟩) (tr.length + 1) ct') ∧ OwnI w1 B 3 (some ⟨g, 0, none⟩) (tr.length + 1) ct' (tr ++ [z]) ∧ w.grownBy w1 (Value.ownBlock (.slice pt tr.length ct)) := by
  obtain ⟨g, cap, w1, hr, hown, hg⟩ := app_trail1 w 90 B pt ct b tr z hl hB ho hz
  have hb := hg.block h (World.block_lt_of_cell? _ _ h0) (fun e => hne e.symm)
  have h1 : w1.cell? ⟨h, 1, none⟩ = some (.slice pt tr.length ct) := by rw [← h0]; simp only [World.cell?, hb]
  have f1 : w1.frozen? ⟨h, 1, none⟩ = false := by rw [← hf]; simp only [World.frozen?, hb]
  have HF : Hid (OwnI w1 B 3 (some ⟨g, 0, none⟩) (tr.length + 1) cap (tr ++ [z]) ∧ w.grownBy w1 (Value.ownBlock (.slice pt tr.length ct))) := ⟨hown, hg⟩
  clear hb hown hg ho hz hne hf
  go_enter Try.func82, Try.ntmps82
  go_wp2_with (at_builtin; refine wpList_app_run rfl _ _ _ _ rfl _ _ _ _ _ rfl rfl hr ?_)
  refine bodyPost_end (v := .tuple #[]) (by simp [results, Try.results82, go_sem]) rfl ?_
  exact ⟨rfl, g, cap, w1, rfl, HF.out⟩

theorem row_ne {w : World} {B B' s s' : Nat} {t t' : TypeId} {v v' : Value} {n n' : Nat} {xs xs' : List Value} (h : w.ownsRow B t s v n xs) (h' : w.ownsRow B' t' s' v' n' xs') (ht : t ≠ t') {g : Nat} (e : Value.ownBlock v = some g) : Value.ownBlock v' ≠ some g := fun e' => by
  rcases h.2 with ⟨rfl, _⟩ | ⟨g1, c1, cur1, rfl, _, h1, _⟩
  · cases e
  · rcases h'.2 with ⟨rfl, _⟩ | ⟨g2, c2, cur2, rfl, _, h2, _⟩
    · cases e'
    · simp only [Value.ownBlock, Option.some.injEq] at e e'
      subst e; subst e'
      rw [h1] at h2
      simp only [Option.some.injEq, Obj.cells.injEq] at h2
      exact ht h2.2.1
/-- A word of the heap set anew. -/
theorem HeapO.setW {w : World} {h : Nat} {xs : List Cel} {tr : List Int} {m : Nat} {lk : Int} (H : HeapO w h xs tr m lk) {g n cw : Nat} (c0 : w.cell? ⟨h, 0, none⟩ = some (.slice (some ⟨g, 0, none⟩) n cw)) (a : Nat) (c : Cel) : HeapO (w.setCell ⟨g, a, none⟩ (wv c)) h (xs.set a c) tr m lk ∧ h + 1 ≤ g := by
  obtain ⟨pw, cw', pt, ct, h0, h1, h2, h3⟩ := H
  have e : w.cell? ⟨h, 0, none⟩ = some (.slice pw xs.length cw') := by simp [World.cell?, h0]
  rw [e] at c0
  simp only [Option.some.injEq, Value.slice.injEq] at c0
  obtain ⟨rfl, rfl, rfl⟩ := c0
  have hg := h1.lt g rfl
  refine ⟨⟨some ⟨g, 0, none⟩, cw', pt, ct, ?_, ?_, ⟨h2.1, ownsRow_setCell_other h2.2 (show Value.ownBlock _ ≠ some (⟨g, a, none⟩ : Addr).block from row_ne h1 h2.2 (by decide) rfl) _⟩, h3⟩, hg.1⟩
  · rw [heap_setCell_other _ _ _ _ (by simp; omega), List.length_set]; exact h0
  · rw [List.length_set, map_set_wv]; exact (h1.stored a (wv c)).1
theorem HeapO.pushed {w w1 : World} {h : Nat} {xs : List Cel} {tr : List Int} {m : Nat} {lk : Int} (H : HeapO w h xs tr m lk) {pt : Option Addr} {ct : Nat} (c1 : w.cell? ⟨h, 1, none⟩ = some (.slice pt tr.length ct)) (hg : w.grownBy w1 (Value.ownBlock (.slice pt tr.length ct))) {g ct' : Nat} {z : Int} (ho : OwnI w1 (h + 1) 3 (some ⟨g, 0, none⟩) (tr.length + 1) ct' (tr ++ [z])) :
    HeapO (w1.setCell ⟨h, 1, none⟩ (.slice (some ⟨g, 0, none⟩) (tr.length + 1) ct')) h xs (tr ++ [z]) m lk := by
  have hl := H.lt
  obtain ⟨pw, cw, pt', ct2, h0, h1, h2, h3⟩ := H
  have e : w.cell? ⟨h, 1, none⟩ = some (.slice pt' tr.length ct2) := by simp [World.cell?, h0]
  rw [e] at c1
  simp only [Option.some.injEq, Value.slice.injEq, true_and] at c1
  obtain ⟨rfl, rfl⟩ := c1
  have hk : ∀ k, Value.ownBlock (.slice pt' tr.length ct2) = some k → h + 1 ≤ k := fun k e => (h2.2.lt k e).1
  have b0 := hg.block h hl (fun e => by have := hk h e.symm; omega)
  have r1 : w1.ownsRow (h + 1) 70 1 (.slice pw xs.length cw) xs.length (xs.map wv) := by
    refine ⟨h1.1, ?_⟩
    rcases h1.2 with h' | ⟨g1, cap, cur, hv, hB, hgg, r⟩
    · exact .inl h'
    · exact .inr ⟨g1, cap, cur, hv, hB, (hg.block g1 (Array.getElem?_eq_some_iff.1 hgg).1 (fun e => row_ne h1 h2.2 (by decide) (g := g1) (by rw [hv]; rfl) e.symm)).trans hgg, r⟩
  have hle : (tr ++ [z]).length = tr.length + 1 := by simp
  refine ⟨pw, cw, some ⟨g, 0, none⟩, ct', ?_, ownsRow_setCell_other r1 (fun e => by have := (r1.lt _ e).1; simp at this; omega) _, ?_, h3⟩
  · rw [heap_setCell_same _ _ _ _ _ _ (b0.trans h0), hle]; rfl
  · rw [hle]
    exact ⟨ho.1, ownsRow_setCell_other ho.2 (fun e => by have := (ho.2.lt _ e).1; simp at this; omega) _⟩

end Go.Proofs.Ytfnmoaiejpkocaa

namespace Go.Proofs.Ytfnmoaiejpkocaa
open Go Go.RowKit Go.Maps
set_option linter.unusedVariables false

/-- What bind leaves. -/
def BindOut (A : (List Cel × List Int) × Int) (h m lk N n : Nat) (w : World) (e : Ending) (w' : World) : Prop :=
  e = .returned (.int .i64 A.2) ∧ Below m w w' ∧ (A.2 = 0 → ∃ (lk' N' : Nat) (mk' : Nat → Nat), HeapO w' h A.1.1 A.1.2 m lk' ∧ SMap w' m N' mk' ∧ (∀ o, mk' o ≤ lk') ∧ lk' ≤ lk + 1 ∧ N' ≤ N + n)

/-- The last two statements of bind. -/
theorem bind_tail {w : World} {h : Nat} {xs : List Cel} {tr : List Int} {m : Nat} {L : Int} (H : HeapO w h xs tr m L) {g cw : Nat} (c0 : w.cell? ⟨h, 0, none⟩ = some (.slice (some ⟨g, 0, none⟩) xs.length cw)) (a : Nat) (c : Cel) (z : Int) (ht : tr.length ≤ 20000) :
    Calls Try.prog 82 #[.pointer (some ⟨h, 1, none⟩), .slice (some ⟨w.heap.size, 0, none⟩) 1 1] ((w.setCell ⟨g, a, none⟩ (wv c)).alloc (.cells #[.int .i64 z] 3)) fun e w' => e = .returned (.tuple #[]) ∧ HeapO w' h (xs.set a c) (tr ++ [z]) m L ∧ w'.heap[m]? = w.heap[m]? ∧ Below m w w' := by
  have hl := H.lt
  obtain ⟨HS, hgh⟩ := H.setW c0 a c
  obtain ⟨W2, eW2⟩ : ∃ W, W = (w.setCell ⟨g, a, none⟩ (wv c)) := ⟨_, rfl⟩
  have hz2 : W2.heap.size = w.heap.size := by rw [eW2]; simp
  rw [← eW2] at HS ⊢
  have H3 := HS.below (alloc_on W2 (.cells #[.int .i64 z] 3))
  obtain ⟨W3, eW3⟩ : ∃ W, W = W2.alloc (.cells #[.int .i64 z] 3) := ⟨_, rfl⟩
  have hn3 : W3.cell? ⟨w.heap.size, 0, none⟩ = some (.int .i64 z) := by
    have := heap_alloc_new W2 (.cells #[.int .i64 z] 3)
    rw [hz2] at this
    rw [eW3]; simp [World.cell?, this]
  have hs3 : W3.heap.size = w.heap.size + 1 := by rw [eW3]; simp; omega
  have hmb : ∀ k, k < h → W3.heap[k]? = w.heap[k]? := fun k hk => by
    rw [eW3, Below.heap_alloc _ _ _ (by omega), eW2]
    exact heap_setCell_other _ _ _ _ (by simp; omega)
  have hb3 : Below m w W3 := by
    rw [eW3, eW2]
    exact ((Below.refl _ _).setCell (p := ⟨g, a, none⟩) (by obtain ⟨_, _, _, _, _, _, _, h3⟩ := H; simp; omega) _).alloc (by obtain ⟨_, _, _, _, _, _, _, h3⟩ := H; simp; omega) _
  rw [← eW3] at H3 ⊢
  obtain ⟨pw, cw', pt, ct, k0, k1, k2, k3⟩ := id H3
  have d1 : W3.cell? ⟨h, 1, none⟩ = some (.slice pt tr.length ct) := by simp [World.cell?, k0]
  refine (push1_any h (h + 1) pt ct w.heap.size tr z W3 ht (by omega) d1 (frozen_of_row _ _ _ _ _ k0) (fun e => by have := (k2.2.lt _ e).1; omega) k2 hn3).mono ?_
  rintro e w' ⟨rfl, g', ct', w1, rfl, ho, hg⟩
  have hbm := hg.block m (by omega) (fun e => by have := (k2.2.lt _ e.symm).1; omega)
  refine ⟨rfl, H3.pushed d1 hg ho, ?_, ?_⟩
  · rw [heap_setCell_other _ _ _ _ (by simp; omega), hbm, hmb m k3]
  · exact (hb3.grown hg (by omega) (fun k e => by have := (k2.2.lt _ e).1; omega)).setCell (p := ⟨h, 1, none⟩) (by simp; omega) _

set_option maxHeartbeats 1000000 in
set_option maxRecDepth 100000 in
theorem bind_any (h m lk N a : Nat) (xs : List Cel) (tr : List Int) (mk : Nat → Nat) (c : Cel) (w : World) (hs : Shp xs) (ha : a < xs.length) (hlk : lk ≤ 1000000) (hN : N + xs.length ≤ 1000000000000) (ht : tr.length ≤ 20000) (hc : WdC xs c) (hna : ¬ (c.1 = 0 ∧ c.2.1 = a)) (hmk : ∀ o, mk o ≤ lk) (H : HeapO w h xs tr m lk) (hm : SMap w m N mk) :
    Calls Try.prog 65 #[.pointer (some ⟨h, 0, none⟩), .int .i64 a, wv c] w (BindOut (bndT xs tr a c) h m lk N xs.length w) := by
  have hl := hs.len
  have I := (isW c hc.knd).rf
  by_cases k0 : c.1 = 0
  · obtain ⟨r0, r1, r2⟩ := hc.2.1 k0
    obtain ⟨j, ej⟩ : ∃ j : Nat, c.2.1 = j := ⟨c.2.1.toNat, by omega⟩
    simp only [k0, if_true, decide_true, ej] at I
    have hwv : wv c = .iface 100 (.int .i64 j) := by unfold wv; rw [if_pos k0, ej]
    have HWC : Hid (wv c = .iface 100 (.int .i64 j)) := hwv
    have hja : j ≠ a := fun e => hna ⟨k0, by omega⟩
    have hjl : j < xs.length := by omega
    have HE : Hid (bndT xs tr a c = if 20000 ≤ tr.length then (([], []), 10) else if a < j then ((xs.set j (0, (a : Int), []), tr ++ [(j : Int)]), 0) else ((xs.set a c, tr ++ [(a : Int)]), 0)) := by
      show _ = _
      unfold bndT
      rw [if_neg (fun hh => by omega), ej]
      by_cases hlt : a < j
      · rw [if_pos (c := a < j) hlt, if_pos (c := c.1 = 0 ∧ (a : Int) < (j : Int)) ⟨k0, by omega⟩]; rfl
      · rw [if_neg (c := a < j) hlt, if_neg (c := c.1 = 0 ∧ (a : Int) < (j : Int)) (fun hh => by omega)]
    rw [HE.out, hwv]
    rw [hwv] at I
    have HO1 : Hid (HeapO w h xs tr m lk) := H
    have HM1 : Hid (SMap w m N mk ∧ ∀ o, mk o ≤ lk) := ⟨hm, hmk⟩
    obtain ⟨pw, cw, pt, ct, hblk, h1, h2, hmh⟩ := id H
    have c1 : w.cell? ⟨h, 1, none⟩ = some (.slice pt tr.length ct) := by simp [World.cell?, hblk]
    obtain ⟨g, cap, hv0, _, _⟩ := h1.form (by omega)
    simp only [Value.slice.injEq, true_and] at hv0
    obtain ⟨rfl, rfl⟩ := hv0
    have c0 : w.cell? ⟨h, 0, none⟩ = some (.slice (some ⟨g, 0, none⟩) xs.length cw) := by simp [World.cell?, hblk]
    have HRO : Hid (w.ownsRow (h + 1) 70 1 (.slice (some ⟨g, 0, none⟩) xs.length cw) xs.length (xs.map wv)) := h1
    have hf : ∀ i, w.frozen? ⟨h, i, none⟩ = false := fun i => frozen_of_row _ _ _ _ _ hblk
    clear hs hc hna hmk H hm k0 hN hlk hblk h1 h2 hmh ej r0 r1 r2 hwv HE
    by_cases hfull : 20000 ≤ tr.length
    · rw [if_pos hfull]
      have hge : (20000 : Int) ≤ tr.length := by omega
      have HR : Hid (Below m w w) := Below.refl _ _
      clear hfull HRO c0
      go_enter Try.func65, Try.ntmps65
      go_wp2_with fail
      go_ret
      exact ⟨rfl, HR.out, fun h => by cases h⟩
    · rw [if_neg hfull]
      have hge : ¬ (20000 : Int) ≤ tr.length := by omega
      clear hfull
      by_cases hlt : a < j
      · rw [if_pos hlt]
        have hgt : (a : Int) < j := by omega
        clear hlt
        go_enter Try.func65, Try.ntmps65
        have HT := bind_tail HO1.out c0 j (0, (a : Int), []) (j : Int) (by omega)
        rw [wv_ref] at HT
        have hv : w.cell? ⟨g, j, none⟩ = some (wv (xs.getD j Cel.none)) := by rw [HRO.out.cellAt j (by omega)]; simp [List.getD, hjl]
        have hfg : w.frozen? ⟨g, j, none⟩ = false := HRO.out.frozenAt j
        generalize wv (xs.getD j Cel.none) = old at hv
        clear HRO
        go_wp2_with fail
        refine HT.mono ?_
        rintro e w4 ⟨rfl, hh4, hm4, hb4⟩
        have HF : Hid (HeapO w4 h (xs.set j (0, (a : Int), [])) (tr ++ [(j : Int)]) m lk ∧ SMap w4 m N mk ∧ Below m w w4) := ⟨hh4, HM1.out.1.of_block hm4, hb4⟩
        clear HT hh4 hm4 hb4 c0 c1 hv hf hfg
        go_wp2_with fail
        go_ret
        exact ⟨rfl, HF.out.2.2, fun _ => ⟨lk, N, mk, HF.out.1, HF.out.2.1, HM1.out.2, by omega, by omega⟩⟩
      · rw [if_neg hlt]
        have hgt : ¬ (a : Int) < j := by omega
        clear hlt
        go_enter Try.func65, Try.ntmps65
        have HT := bind_tail HO1.out c0 a c (a : Int) (by omega)
        rw [HWC.out] at HT
        have hv : w.cell? ⟨g, a, none⟩ = some (wv (xs.getD a Cel.none)) := by rw [HRO.out.cellAt a (by omega)]; simp [List.getD, ha]
        have hfg : w.frozen? ⟨g, a, none⟩ = false := HRO.out.frozenAt a
        generalize wv (xs.getD a Cel.none) = old at hv
        clear HRO
        go_wp2_with fail
        refine HT.mono ?_
        rintro e w4 ⟨rfl, hh4, hm4, hb4⟩
        have HF : Hid (HeapO w4 h (xs.set a c) (tr ++ [(a : Int)]) m lk ∧ SMap w4 m N mk ∧ Below m w w4) := ⟨hh4, HM1.out.1.of_block hm4, hb4⟩
        clear HT hh4 hm4 hb4 c0 c1 hv hf hfg
        go_wp2_with fail
        go_ret
        exact ⟨rfl, HF.out.2.2, fun _ => ⟨lk, N, mk, HF.out.1, HF.out.2.1, HM1.out.2, by omega, by omega⟩⟩
  · simp only [k0, if_false, decide_false] at I
    have HST := standsIn_any h m lk N a xs tr mk c w hs ha hlk hN hc hmk H hm
    have hal : a < 20000 := by omega
    have hxl : 0 < xs.length := by omega
    have HAL : Hid (a < xs.length) := ha
    have HE : Hid (∀ r : Bool, (r = true ↔ Rch xs a c) → bndT xs tr a c = if r = true then (([], []), 5) else if 20000 ≤ tr.length then (([], []), 10) else ((xs.set a c, tr ++ [(a : Int)]), 0)) := fun r hr => by
      have h40 : Rch xs a c → c.1 = 4 := fun h => by
        by_cases k4 : c.1 = 4
        · exact k4
        · cases h with
          | here h => exact absurd h (beh_no k0 k4)
          | on h _ => exact absurd h (beh_no k0 k4)
      unfold bndT
      by_cases hrr : Rch xs a c
      · rw [if_pos ⟨h40 hrr, hrr⟩, if_pos (hr.2 hrr)]
      · have n1 : ¬ (c.1 = 0 ∧ (a : Int) < c.2.1) := fun hh => k0 hh.1
        have n2 : ¬ r = true := fun hh => hrr (hr.1 hh)
        rw [if_neg (fun hh => hrr hh.2), if_neg n1, if_neg n2]
    generalize bndT xs tr a c = AA at HE ⊢
    obtain ⟨ty, y, hvv⟩ := wv_iface c
    rw [hvv] at I HST ⊢
    have HVV : Hid (wv c = .iface ty y) := hvv
    clear hs hc hna hmk H hm k0 hvv hN hlk ha hl
    go_enter Try.func65, Try.ntmps65
    go_wp2_with fail
    refine HST.mono ?_
    rintro e w1 ⟨r, N1, mk1, rfl, hr, ho1, hm1, hle1, hn1, hb1⟩
    have HEr := HE.out r hr
    have HO1 : Hid (HeapO w1 h xs tr m ((lk + 1 : Nat) : Int)) := ho1
    have HM1 : Hid (SMap w1 m N1 mk1 ∧ (∀ o, mk1 o ≤ lk + 1) ∧ N1 ≤ N + xs.length ∧ Below m w w1) := ⟨hm1, hle1, hn1, hb1⟩
    clear hr ho1 hm1 hle1 hn1 hb1 HE HST
    cases r
    · simp only [Bool.false_eq_true, if_false] at HEr
      obtain ⟨pw, cw, pt, ct, hblk, h1, h2, hmh⟩ := HO1.out
      have c1 : w1.cell? ⟨h, 1, none⟩ = some (.slice pt tr.length ct) := by simp [World.cell?, hblk]
      obtain ⟨g, cap, hv0, _, _⟩ := h1.form hxl
      simp only [Value.slice.injEq, true_and] at hv0
      obtain ⟨rfl, rfl⟩ := hv0
      by_cases hfull : 20000 ≤ tr.length
      · rw [if_pos hfull] at HEr
        subst HEr
        have hge : (20000 : Int) ≤ tr.length := by omega
        clear hblk h1 h2 hmh hfull hxl hal
        go_wp2_with fail
        go_ret
        exact ⟨rfl, HM1.out.2.2.2, fun h => by cases h⟩
      · rw [if_neg hfull] at HEr
        subst HEr
        have hge : ¬ (20000 : Int) ≤ tr.length := by omega
        have c0 : w1.cell? ⟨h, 0, none⟩ = some (.slice (some ⟨g, 0, none⟩) xs.length cw) := by simp [World.cell?, hblk]
        have hv : w1.cell? ⟨g, a, none⟩ = some (wv (xs.getD a Cel.none)) := by rw [h1.cellAt a (by have := HAL.out; omega)]; have := HAL.out; simp [List.getD, this]
        have hf : ∀ i, w1.frozen? ⟨h, i, none⟩ = false := fun i => frozen_of_row _ _ _ _ _ hblk
        have hfg : w1.frozen? ⟨g, a, none⟩ = false := h1.frozenAt a
        generalize wv (xs.getD a Cel.none) = old at hv
        have hax : a < xs.length := HAL.out
        clear hblk h1 h2 hmh hfull hxl
        have HT := bind_tail HO1.out c0 a c (a : Int) (by omega)
        rw [HVV.out] at HT
        go_wp2_with fail
        refine HT.mono ?_
        rintro e w4 ⟨rfl, hh4, hm4, hb4⟩
        have HF : Hid (HeapO w4 h (xs.set a c) (tr ++ [(a : Int)]) m ((lk + 1 : Nat) : Int) ∧ SMap w4 m N1 mk1 ∧ Below m w w4) := ⟨hh4, HM1.out.1.of_block hm4, HM1.out.2.2.2.trans hb4⟩
        clear HT hh4 hm4 hb4 c0 c1 hv hf hfg
        go_wp2_with fail
        go_ret
        exact ⟨rfl, HF.out.2.2, fun _ => ⟨lk + 1, N1, mk1, HF.out.1, HF.out.2.1, HM1.out.2.1, Nat.le_refl _, HM1.out.2.2.1⟩⟩
    · simp only [if_true] at HEr
      subst HEr
      clear hxl hal
      go_wp2_with fail
      go_ret
      exact ⟨rfl, HM1.out.2.2.2, fun h => by cases h⟩

end Go.Proofs.Ytfnmoaiejpkocaa

