/- Texts of BdK, BdL1, UwJ. Own work of the verifier. -/
import Derived.Test.YtfnmoaiejpkocaaUqax
namespace Go.Proofs.Ytfnmoaiejpkocaa
open Go Go.RowKit Go.Maps
set_option linter.unusedVariables false

theorem HeapO.look {w : World} {h : Nat} {xs : List Cel} {tr : List Int} {m : Nat} {lk : Int} (H : HeapO w h xs tr m lk) (lk' : Int) : HeapO (w.setCell ⟨h, 3, none⟩ (.int .i64 lk')) h xs tr m lk' := by
  obtain ⟨pw, cw, pt, ct, h0, h1, h2, h3⟩ := H
  refine ⟨pw, cw, pt, ct, ?_, ownsRow_setCell_other h1 (fun e => by have := (h1.lt _ e).1; simp at this; omega) _, ⟨h2.1, ownsRow_setCell_other h2.2 (fun e => by have := (h2.2.lt _ e).1; simp at this; omega) _⟩, h3⟩
  rw [heap_setCell_same _ _ _ _ _ _ h0]; rfl

/-- What standsIn answers. -/
def StandOut (xs : List Cel) (tr : List Int) (c : Cel) (goal h m lk N : Nat) (w : World) (e : Ending) (w' : World) : Prop :=
  ∃ (r : Bool) (N' : Nat) (mk' : Nat → Nat), e = .returned (.bool r) ∧ (r = true ↔ Rch xs goal c) ∧ HeapO w' h xs tr m ((lk + 1 : Nat) : Int) ∧ SMap w' m N' mk' ∧ (∀ o, mk' o ≤ lk + 1) ∧ N' ≤ N + xs.length ∧ Below m w w'

set_option maxHeartbeats 1000000 in
set_option maxRecDepth 100000 in
theorem standsIn_any (h m lk N goal : Nat) (xs : List Cel) (tr : List Int) (mk : Nat → Nat) (c : Cel) (w : World) (hs : Shp xs) (hg : goal < xs.length) (hlk : lk ≤ 1000000) (hN : N + xs.length ≤ 1000000) (hc : WdC xs c) (hmk : ∀ o, mk o ≤ lk) (H : HeapO w h xs tr m lk) (hm : SMap w m N mk) :
    Calls Try.prog 90 #[.pointer (some ⟨h, 0, none⟩), .int .i64 goal, wv c] w (StandOut xs tr c goal h m lk N w) := by
  have hH := H.lt
  obtain ⟨pw, cw, pt, ct, hblk, _, _, hmh⟩ := id H
  have c3 : w.cell? ⟨h, 3, none⟩ = some (.int .i64 lk) := by simp [World.cell?, hblk]
  have f3 : w.frozen? ⟨h, 3, none⟩ = false := frozen_of_row _ _ _ _ _ hblk
  have H1 := H.look ((lk + 1 : Nat) : Int)
  have hm1 : SMap (w.setCell ⟨h, 3, none⟩ (.int .i64 ((lk + 1 : Nat) : Int))) m N mk := hm.of_block (heap_setCell_other _ _ _ _ (by simp; omega))
  have hu := unk_top xs.length (mkB mk (lk + 1))
  have HR := reaches_any h m (lk + 1) goal xs tr hs hg (by omega) (xs.length + 1) N mk c _ hc (by omega) (by omega) H1 hm1
  have HB : Hid (Below m w (w.setCell ⟨h, 3, none⟩ (.int .i64 ((lk + 1 : Nat) : Int)))) := (Below.refl _ _).setCell (p := ⟨h, 3, none⟩) (by simp; omega) _
  have HO : Hid _ := H1
  have HMK : Hid (∀ o, mk o ≤ lk) := hmk
  have HU : Hid (unk xs.length (mkB mk (lk + 1)) ≤ xs.length) := hu
  have hsz : m ≤ (w.setCell ⟨h, 3, none⟩ (.int .i64 ((lk + 1 : Nat) : Int))).heap.size := by simp; omega
  have HSZ : Hid _ := hsz
  have e1 : ((lk + 1 : Nat) : Int) = (lk : Int) + 1 := by omega
  rw [e1] at HR HB HO HSZ
  generalize wv c = v at HR ⊢
  clear H1 hm1 hblk hs hc hmk H hm hu hsz
  go_enter Try.func90, Try.ntmps90
  go_wp2_with fail
  refine HR.mono ?_
  rintro e w2 ⟨r, N2, mk2, rfl, hk, hm2, hn, ho, hr1, hr0⟩
  have HK : Hid (Keep m (m + 1) _ w2) := hk
  have HF : Hid (SMap w2 m N2 mk2 ∧ N2 + unk xs.length (mkB mk2 (lk + 1)) ≤ N + unk xs.length (mkB mk (lk + 1)) ∧ (∀ o, mk2 o = mk o ∨ mk2 o = lk + 1)) := ⟨hm2, hn, ho⟩
  have HRR : Hid ((r = true → Rch xs goal c) ∧ (r = false → (∀ y, Beh xs c y → OkY xs goal (lk + 1) mk2 y) ∧ ∀ o, mk2 o = lk + 1 → mk o ≠ lk + 1 → ∀ y, Beh xs (xs.getD o Cel.none) y → OkY xs goal (lk + 1) mk2 y)) := ⟨hr1, hr0⟩
  clear hk hm2 hn ho hr1 hr0 HR
  go_wp2_with fail
  go_ret
  obtain ⟨q1, q2, q3⟩ := HF.out
  refine ⟨r, N2, mk2, rfl, ⟨HRR.out.1, fun hrch => ?_⟩, by rw [e1]; exact HeapO.keep HO.out HK.out, q1, fun o => ?_, by have := HU.out; omega, HB.out.trans (HK.out.below (Nat.le_refl _) HSZ.out)⟩
  · cases r with
    | true => rfl
    | false =>
      obtain ⟨a1, a2⟩ := HRR.out.2 rfl
      refine absurd hrch (rch_no (V := fun o => mk2 o = lk + 1) (fun x hx y hy => ?_) (fun y hy => ?_))
      · exact a2 x hx (by have := HMK.out x; omega) y hy
      · exact a1 y hy
  · have := HMK.out o
    rcases q3 o with e | e <;> omega

theorem app_trail1 (w : World) (ty : TypeId) (B : Nat) (pt : Option Addr) (ct b : Nat) (tr : List Int) (z : Int) (hl : tr.length ≤ 20000) (hB : B ≤ w.heap.size) (ho : OwnI w B 3 pt tr.length ct tr) (hz : w.cell? ⟨b, 0, none⟩ = some (.int .i64 z)) :
    ∃ g cap w1, (Builtin.append_ #[90, 23] ty #[.slice pt tr.length ct, .slice (some ⟨b, 0, none⟩) 1 1]).run Try.prog w = .ok (.slice (some ⟨g, 0, none⟩) (tr.length + 1) cap) w1 ∧ OwnI w1 B 3 (some ⟨g, 0, none⟩) (tr.length + 1) cap (tr ++ [z]) ∧ w.grownBy w1 (Value.ownBlock (.slice pt tr.length ct)) := by
  obtain ⟨i0, hi, hz0, hz1, hz2⟩ := info_parts infoInt
  obtain ⟨g', cap, w', hr, h2, h3, _, _⟩ := run_append_lies (P := Try.prog) w 90 ty B 3 i0 (.int .i64 0) 1 8 Try.underlying90 hi hz0 hz1 hz2 rfl (by decide) (.slice pt tr.length ct) tr.length (tr.map (Value.int .i64)) ho.2 ⟨b, 0, none⟩ 1 1 [.int .i64 z] rfl
    (fun j u hj => by
      cases j with
      | zero => simp at hj; subst hj; rw [show (⟨b, 0, none⟩ : Addr).add 0 = ⟨b, 0 + 0, none⟩ from WideShapes.add_plain _ _ _]; exact hz
      | succ j => simp at hj) (ints_oneCell .i64 [z]) (by decide) (by unfold maxLen; omega) (by omega) hB _ rfl
  have e : (Builtin.append_ #[90, 23] ty #[.slice pt tr.length ct, .slice (some ⟨b, 0, none⟩) 1 1]).run Try.prog w = (Builtin.append_ #[90, 90] ty #[.slice pt tr.length ct, .slice (some ⟨b, 0, none⟩) 1 1]).run Try.prog w := by
    simp [Builtin.append_, run_underlying Try.underlying90, run_underlying Try.underlying23]
  exact ⟨g', cap, w', e.trans hr, ⟨by simp, by rw [List.map_append]; exact h2⟩, h3⟩

set_option maxRecDepth 100000 in
theorem push1_any (h B : Nat) (pt : Option Addr) (ct b : Nat) (tr : List Int) (z : Int) (w : World) (hl : tr.length ≤ 20000) (hB : B ≤ w.heap.size) (h0 : w.cell? ⟨h, 1, none⟩ = some (.slice pt tr.length ct)) (hf : w.frozen? ⟨h, 1, none⟩ = false) (hne : Value.ownBlock (.slice pt tr.length ct) ≠ some h) (ho : OwnI w B 3 pt tr.length ct tr) (hz : w.cell? ⟨b, 0, none⟩ = some (.int .i64 z)) :
    Calls Try.prog 82 #[.pointer (some ⟨h, 1, none⟩), .slice (some ⟨b, 0, none⟩) 1 1] w fun e w' => e = .returned (.tuple #[]) ∧ ∃ g ct' w1, w' = w1.setCell ⟨h, 1, none⟩ (.slice (some ⟨g, 0, none⟩) (tr.length + 1) ct') ∧ OwnI w1 B 3 (some ⟨g, 0, none⟩) (tr.length + 1) ct' (tr ++ [z]) ∧ w.grownBy w1 (Value.ownBlock (.slice pt tr.length ct)) := by
  obtain ⟨g, cap, w1, hr, hown, hg⟩ := app_trail1 w 90 B pt ct b tr z hl hB ho hz
  have hb := hg.block h (World.block_lt_of_cell? _ _ h0) (fun e => hne e.symm)
  have h1 : w1.cell? ⟨h, 1, none⟩ = some (.slice pt tr.length ct) := by rw [← h0]; simp only [World.cell?, hb]
  have f1 : w1.frozen? ⟨h, 1, none⟩ = false := by rw [← hf]; simp only [World.frozen?, hb]
  have HF : Hid (OwnI w1 B 3 (some ⟨g, 0, none⟩) (tr.length + 1) cap (tr ++ [z]) ∧ w.grownBy w1 (Value.ownBlock (.slice pt tr.length ct))) := ⟨hown, hg⟩
  clear hb hown hg ho hz hne hf
  go_enter Try.func82, Try.ntmps82
  go_wp2_with (at_builtin; refine wpList_app_run rfl _ _ _ _ rfl _ _ _ _ _ rfl rfl hr ?_)
  refine bodyPost_end (v := .tuple #[]) (by simp [results, Try.results82, go_sem]) rfl ?_
  exact ⟨rfl, g, cap, w1, rfl, HF.out⟩

theorem row_ne {w : World} {B B' s s' : Nat} {t t' : TypeId} {v v' : Value} {n n' : Nat} {xs xs' : List Value} (h : w.ownsRow B t s v n xs) (h' : w.ownsRow B' t' s' v' n' xs') (ht : t ≠ t') {g : Nat} (e : Value.ownBlock v = some g) : Value.ownBlock v' ≠ some g := fun e' => by
  rcases h.2 with ⟨rfl, _⟩ | ⟨g1, c1, cur1, rfl, _, h1, _⟩
  · cases e
  · rcases h'.2 with ⟨rfl, _⟩ | ⟨g2, c2, cur2, rfl, _, h2, _⟩
    · cases e'
    · simp only [Value.ownBlock, Option.some.injEq] at e e'
      subst e; subst e'
      rw [h1] at h2
      simp only [Option.some.injEq, Obj.cells.injEq] at h2
      exact ht h2.2.1
/-- A word of the heap set anew. -/
theorem HeapO.setW {w : World} {h : Nat} {xs : List Cel} {tr : List Int} {m : Nat} {lk : Int} (H : HeapO w h xs tr m lk) {g n cw : Nat} (c0 : w.cell? ⟨h, 0, none⟩ = some (.slice (some ⟨g, 0, none⟩) n cw)) (a : Nat) (c : Cel) : HeapO (w.setCell ⟨g, a, none⟩ (wv c)) h (xs.set a c) tr m lk ∧ h + 1 ≤ g := by
  obtain ⟨pw, cw', pt, ct, h0, h1, h2, h3⟩ := H
  have e : w.cell? ⟨h, 0, none⟩ = some (.slice pw xs.length cw') := by simp [World.cell?, h0]
  rw [e] at c0
  simp only [Option.some.injEq, Value.slice.injEq] at c0
  obtain ⟨rfl, rfl, rfl⟩ := c0
  have hg := h1.lt g rfl
  refine ⟨⟨some ⟨g, 0, none⟩, cw', pt, ct, ?_, ?_, ⟨h2.1, ownsRow_setCell_other h2.2 (show Value.ownBlock _ ≠ some (⟨g, a, none⟩ : Addr).block from row_ne h1 h2.2 (by decide) rfl) _⟩, h3⟩, hg.1⟩
  · rw [heap_setCell_other _ _ _ _ (by simp; omega), List.length_set]; exact h0
  · rw [List.length_set, map_set_wv]; exact (h1.stored a (wv c)).1
theorem HeapO.pushed {w w1 : World} {h : Nat} {xs : List Cel} {tr : List Int} {m : Nat} {lk : Int} (H : HeapO w h xs tr m lk) {pt : Option Addr} {ct : Nat} (c1 : w.cell? ⟨h, 1, none⟩ = some (.slice pt tr.length ct)) (hg : w.grownBy w1 (Value.ownBlock (.slice pt tr.length ct))) {g ct' : Nat} {z : Int} (ho : OwnI w1 (h + 1) 3 (some ⟨g, 0, none⟩) (tr.length + 1) ct' (tr ++ [z])) :
    HeapO (w1.setCell ⟨h, 1, none⟩ (.slice (some ⟨g, 0, none⟩) (tr.length + 1) ct')) h xs (tr ++ [z]) m lk := by
  have hl := H.lt
  obtain ⟨pw, cw, pt', ct2, h0, h1, h2, h3⟩ := H
  have e : w.cell? ⟨h, 1, none⟩ = some (.slice pt' tr.length ct2) := by simp [World.cell?, h0]
  rw [e] at c1
  simp only [Option.some.injEq, Value.slice.injEq, true_and] at c1
  obtain ⟨rfl, rfl⟩ := c1
  have hk : ∀ k, Value.ownBlock (.slice pt' tr.length ct2) = some k → h + 1 ≤ k := fun k e => (h2.2.lt k e).1
  have b0 := hg.block h hl (fun e => by have := hk h e.symm; omega)
  have r1 : w1.ownsRow (h + 1) 70 1 (.slice pw xs.length cw) xs.length (xs.map wv) := by
    refine ⟨h1.1, ?_⟩
    rcases h1.2 with h' | ⟨g1, cap, cur, hv, hB, hgg, r⟩
    · exact .inl h'
    · exact .inr ⟨g1, cap, cur, hv, hB, (hg.block g1 (Array.getElem?_eq_some_iff.1 hgg).1 (fun e => row_ne h1 h2.2 (by decide) (g := g1) (by rw [hv]; rfl) e.symm)).trans hgg, r⟩
  have hle : (tr ++ [z]).length = tr.length + 1 := by simp
  refine ⟨pw, cw, some ⟨g, 0, none⟩, ct', ?_, ownsRow_setCell_other r1 (fun e => by have := (r1.lt _ e).1; simp at this; omega) _, ?_, h3⟩
  · rw [heap_setCell_same _ _ _ _ _ _ (b0.trans h0), hle]; rfl
  · rw [hle]
    exact ⟨ho.1, ownsRow_setCell_other ho.2 (fun e => by have := (ho.2.lt _ e).1; simp at this; omega) _⟩

end Go.Proofs.Ytfnmoaiejpkocaa

namespace Go.Proofs.Ytfnmoaiejpkocaa
open Go Go.RowKit Go.Maps
set_option linter.unusedVariables false

/-- What bind leaves. -/
def BindOut (A : (List Cel × List Int) × Int) (h m lk N n : Nat) (w : World) (e : Ending) (w' : World) : Prop :=
  e = .returned (.int .i64 A.2) ∧ Below m w w' ∧ (A.2 = 0 → ∃ (lk' N' : Nat) (mk' : Nat → Nat), HeapO w' h A.1.1 A.1.2 m lk' ∧ SMap w' m N' mk' ∧ (∀ o, mk' o ≤ lk') ∧ lk' ≤ lk + 1 ∧ N' ≤ N + n)

/-- The last two statements of bind. -/
theorem bind_tail {w : World} {h : Nat} {xs : List Cel} {tr : List Int} {m : Nat} {L : Int} (H : HeapO w h xs tr m L) {g cw : Nat} (c0 : w.cell? ⟨h, 0, none⟩ = some (.slice (some ⟨g, 0, none⟩) xs.length cw)) (a : Nat) (c : Cel) (z : Int) (ht : tr.length ≤ 20000) :
    Calls Try.prog 82 #[.pointer (some ⟨h, 1, none⟩), .slice (some ⟨w.heap.size, 0, none⟩) 1 1] ((w.setCell ⟨g, a, none⟩ (wv c)).alloc (.cells #[.int .i64 z] 3)) fun e w' => e = .returned (.tuple #[]) ∧ HeapO w' h (xs.set a c) (tr ++ [z]) m L ∧ w'.heap[m]? = w.heap[m]? ∧ Below m w w' := by
  have hl := H.lt
  obtain ⟨HS, hgh⟩ := H.setW c0 a c
  obtain ⟨W2, eW2⟩ : ∃ W, W = (w.setCell ⟨g, a, none⟩ (wv c)) := ⟨_, rfl⟩
  have hz2 : W2.heap.size = w.heap.size := by rw [eW2]; simp
  rw [← eW2] at HS ⊢
  have H3 := HS.below (alloc_on W2 (.cells #[.int .i64 z] 3))
  obtain ⟨W3, eW3⟩ : ∃ W, W = W2.alloc (.cells #[.int .i64 z] 3) := ⟨_, rfl⟩
  have hn3 : W3.cell? ⟨w.heap.size, 0, none⟩ = some (.int .i64 z) := by
    have := heap_alloc_new W2 (.cells #[.int .i64 z] 3)
    rw [hz2] at this
    rw [eW3]; simp [World.cell?, this]
  have hs3 : W3.heap.size = w.heap.size + 1 := by rw [eW3]; simp; omega
  have hmb : ∀ k, k < h → W3.heap[k]? = w.heap[k]? := fun k hk => by
    rw [eW3, Below.heap_alloc _ _ _ (by omega), eW2]
    exact heap_setCell_other _ _ _ _ (by simp; omega)
  have hb3 : Below m w W3 := by
    rw [eW3, eW2]
    exact ((Below.refl _ _).setCell (p := ⟨g, a, none⟩) (by obtain ⟨_, _, _, _, _, _, _, h3⟩ := H; simp; omega) _).alloc (by obtain ⟨_, _, _, _, _, _, _, h3⟩ := H; simp; omega) _
  rw [← eW3] at H3 ⊢
  obtain ⟨pw, cw', pt, ct, k0, k1, k2, k3⟩ := id H3
  have d1 : W3.cell? ⟨h, 1, none⟩ = some (.slice pt tr.length ct) := by simp [World.cell?, k0]
  refine (push1_any h (h + 1) pt ct w.heap.size tr z W3 ht (by omega) d1 (frozen_of_row _ _ _ _ _ k0) (fun e => by have := (k2.2.lt _ e).1; omega) k2 hn3).mono ?_
  rintro e w' ⟨rfl, g', ct', w1, rfl, ho, hg⟩
  have hbm := hg.block m (by omega) (fun e => by have := (k2.2.lt _ e.symm).1; omega)
  refine ⟨rfl, H3.pushed d1 hg ho, ?_, ?_⟩
  · rw [heap_setCell_other _ _ _ _ (by simp; omega), hbm, hmb m k3]
  · exact (hb3.grown hg (by omega) (fun k e => by have := (k2.2.lt _ e).1; omega)).setCell (p := ⟨h, 1, none⟩) (by simp; omega) _

set_option maxHeartbeats 1000000 in
set_option maxRecDepth 100000 in
theorem bind_any (h m lk N a : Nat) (xs : List Cel) (tr : List Int) (mk : Nat → Nat) (c : Cel) (w : World) (hs : Shp xs) (ha : a < xs.length) (hlk : lk ≤ 1000000) (hN : N + xs.length ≤ 1000000) (ht : tr.length ≤ 20000) (hc : WdC xs c) (hna : ¬ (c.1 = 0 ∧ c.2.1 = a)) (hmk : ∀ o, mk o ≤ lk) (H : HeapO w h xs tr m lk) (hm : SMap w m N mk) :
    Calls Try.prog 65 #[.pointer (some ⟨h, 0, none⟩), .int .i64 a, wv c] w (BindOut (bndT xs tr a c) h m lk N xs.length w) := by
  have hl := hs.len
  have I := (isW c hc.knd).rf
  by_cases k0 : c.1 = 0
  · obtain ⟨r0, r1, r2⟩ := hc.2.1 k0
    obtain ⟨j, ej⟩ : ∃ j : Nat, c.2.1 = j := ⟨c.2.1.toNat, by omega⟩
    simp only [k0, if_true, decide_true, ej] at I
    have hwv : wv c = .iface 100 (.int .i64 j) := by unfold wv; rw [if_pos k0, ej]
    have HWC : Hid (wv c = .iface 100 (.int .i64 j)) := hwv
    have hja : j ≠ a := fun e => hna ⟨k0, by omega⟩
    have hjl : j < xs.length := by omega
    have HE : Hid (bndT xs tr a c = if 20000 ≤ tr.length then (([], []), 10) else if a < j then ((xs.set j (0, (a : Int), []), tr ++ [(j : Int)]), 0) else ((xs.set a c, tr ++ [(a : Int)]), 0)) := by
      show _ = _
      unfold bndT
      rw [if_neg (fun hh => by omega), ej]
      by_cases hlt : a < j
      · rw [if_pos (c := a < j) hlt, if_pos (c := c.1 = 0 ∧ (a : Int) < (j : Int)) ⟨k0, by omega⟩]; rfl
      · rw [if_neg (c := a < j) hlt, if_neg (c := c.1 = 0 ∧ (a : Int) < (j : Int)) (fun hh => by omega)]
    rw [HE.out, hwv]
    rw [hwv] at I
    have HO1 : Hid (HeapO w h xs tr m lk) := H
    have HM1 : Hid (SMap w m N mk ∧ ∀ o, mk o ≤ lk) := ⟨hm, hmk⟩
    obtain ⟨pw, cw, pt, ct, hblk, h1, h2, hmh⟩ := id H
    have c1 : w.cell? ⟨h, 1, none⟩ = some (.slice pt tr.length ct) := by simp [World.cell?, hblk]
    obtain ⟨g, cap, hv0, _, _⟩ := h1.form (by omega)
    simp only [Value.slice.injEq, true_and] at hv0
    obtain ⟨rfl, rfl⟩ := hv0
    have c0 : w.cell? ⟨h, 0, none⟩ = some (.slice (some ⟨g, 0, none⟩) xs.length cw) := by simp [World.cell?, hblk]
    have HRO : Hid (w.ownsRow (h + 1) 70 1 (.slice (some ⟨g, 0, none⟩) xs.length cw) xs.length (xs.map wv)) := h1
    have hf : ∀ i, w.frozen? ⟨h, i, none⟩ = false := fun i => frozen_of_row _ _ _ _ _ hblk
    clear hs hc hna hmk H hm k0 hN hlk hblk h1 h2 hmh ej r0 r1 r2 hwv HE
    by_cases hfull : 20000 ≤ tr.length
    · rw [if_pos hfull]
      have hge : (20000 : Int) ≤ tr.length := by omega
      have HR : Hid (Below m w w) := Below.refl _ _
      clear hfull HRO c0
      go_enter Try.func65, Try.ntmps65
      go_wp2_with fail
      go_ret
      exact ⟨rfl, HR.out, fun h => by cases h⟩
    · rw [if_neg hfull]
      have hge : ¬ (20000 : Int) ≤ tr.length := by omega
      clear hfull
      by_cases hlt : a < j
      · rw [if_pos hlt]
        have hgt : (a : Int) < j := by omega
        clear hlt
        go_enter Try.func65, Try.ntmps65
        have HT := bind_tail HO1.out c0 j (0, (a : Int), []) (j : Int) (by omega)
        rw [wv_ref] at HT
        have hv : w.cell? ⟨g, j, none⟩ = some (wv (xs.getD j Cel.none)) := by rw [HRO.out.cellAt j (by omega)]; simp [List.getD, hjl]
        have hfg : w.frozen? ⟨g, j, none⟩ = false := HRO.out.frozenAt j
        generalize wv (xs.getD j Cel.none) = old at hv
        clear HRO
        go_wp2_with fail
        refine HT.mono ?_
        rintro e w4 ⟨rfl, hh4, hm4, hb4⟩
        have HF : Hid (HeapO w4 h (xs.set j (0, (a : Int), [])) (tr ++ [(j : Int)]) m lk ∧ SMap w4 m N mk ∧ Below m w w4) := ⟨hh4, HM1.out.1.of_block hm4, hb4⟩
        clear HT hh4 hm4 hb4 c0 c1 hv hf hfg
        go_wp2_with fail
        go_ret
        exact ⟨rfl, HF.out.2.2, fun _ => ⟨lk, N, mk, HF.out.1, HF.out.2.1, HM1.out.2, by omega, by omega⟩⟩
      · rw [if_neg hlt]
        have hgt : ¬ (a : Int) < j := by omega
        clear hlt
        go_enter Try.func65, Try.ntmps65
        have HT := bind_tail HO1.out c0 a c (a : Int) (by omega)
        rw [HWC.out] at HT
        have hv : w.cell? ⟨g, a, none⟩ = some (wv (xs.getD a Cel.none)) := by rw [HRO.out.cellAt a (by omega)]; simp [List.getD, ha]
        have hfg : w.frozen? ⟨g, a, none⟩ = false := HRO.out.frozenAt a
        generalize wv (xs.getD a Cel.none) = old at hv
        clear HRO
        go_wp2_with fail
        refine HT.mono ?_
        rintro e w4 ⟨rfl, hh4, hm4, hb4⟩
        have HF : Hid (HeapO w4 h (xs.set a c) (tr ++ [(a : Int)]) m lk ∧ SMap w4 m N mk ∧ Below m w w4) := ⟨hh4, HM1.out.1.of_block hm4, hb4⟩
        clear HT hh4 hm4 hb4 c0 c1 hv hf hfg
        go_wp2_with fail
        go_ret
        exact ⟨rfl, HF.out.2.2, fun _ => ⟨lk, N, mk, HF.out.1, HF.out.2.1, HM1.out.2, by omega, by omega⟩⟩
  · simp only [k0, if_false, decide_false] at I
    have HST := standsIn_any h m lk N a xs tr mk c w hs ha hlk hN hc hmk H hm
    have hal : a < 20000 := by omega
    have hxl : 0 < xs.length := by omega
    have HAL : Hid (a < xs.length) := ha
    have HE : Hid (∀ r : Bool, (r = true ↔ Rch xs a c) → bndT xs tr a c = if r = true then (([], []), 5) else if 20000 ≤ tr.length then (([], []), 10) else ((xs.set a c, tr ++ [(a : Int)]), 0)) := fun r hr => by
      have h40 : Rch xs a c → c.1 = 4 := fun h => by
        by_cases k4 : c.1 = 4
        · exact k4
        · cases h with
          | here h => exact absurd h (beh_no k0 k4)
          | on h _ => exact absurd h (beh_no k0 k4)
      unfold bndT
      by_cases hrr : Rch xs a c
      · rw [if_pos ⟨h40 hrr, hrr⟩, if_pos (hr.2 hrr)]
      · have n1 : ¬ (c.1 = 0 ∧ (a : Int) < c.2.1) := fun hh => k0 hh.1
        have n2 : ¬ r = true := fun hh => hrr (hr.1 hh)
        rw [if_neg (fun hh => hrr hh.2), if_neg n1, if_neg n2]
    generalize bndT xs tr a c = AA at HE ⊢
    obtain ⟨ty, y, hvv⟩ := wv_iface c
    rw [hvv] at I HST ⊢
    have HVV : Hid (wv c = .iface ty y) := hvv
    clear hs hc hna hmk H hm k0 hvv hN hlk ha hl
    go_enter Try.func65, Try.ntmps65
    go_wp2_with fail
    refine HST.mono ?_
    rintro e w1 ⟨r, N1, mk1, rfl, hr, ho1, hm1, hle1, hn1, hb1⟩
    have HEr := HE.out r hr
    have HO1 : Hid (HeapO w1 h xs tr m ((lk + 1 : Nat) : Int)) := ho1
    have HM1 : Hid (SMap w1 m N1 mk1 ∧ (∀ o, mk1 o ≤ lk + 1) ∧ N1 ≤ N + xs.length ∧ Below m w w1) := ⟨hm1, hle1, hn1, hb1⟩
    clear hr ho1 hm1 hle1 hn1 hb1 HE HST
    cases r
    · simp only [Bool.false_eq_true, if_false] at HEr
      obtain ⟨pw, cw, pt, ct, hblk, h1, h2, hmh⟩ := HO1.out
      have c1 : w1.cell? ⟨h, 1, none⟩ = some (.slice pt tr.length ct) := by simp [World.cell?, hblk]
      obtain ⟨g, cap, hv0, _, _⟩ := h1.form hxl
      simp only [Value.slice.injEq, true_and] at hv0
      obtain ⟨rfl, rfl⟩ := hv0
      by_cases hfull : 20000 ≤ tr.length
      · rw [if_pos hfull] at HEr
        subst HEr
        have hge : (20000 : Int) ≤ tr.length := by omega
        clear hblk h1 h2 hmh hfull hxl hal
        go_wp2_with fail
        go_ret
        exact ⟨rfl, HM1.out.2.2.2, fun h => by cases h⟩
      · rw [if_neg hfull] at HEr
        subst HEr
        have hge : ¬ (20000 : Int) ≤ tr.length := by omega
        have c0 : w1.cell? ⟨h, 0, none⟩ = some (.slice (some ⟨g, 0, none⟩) xs.length cw) := by simp [World.cell?, hblk]
        have hv : w1.cell? ⟨g, a, none⟩ = some (wv (xs.getD a Cel.none)) := by rw [h1.cellAt a (by have := HAL.out; omega)]; have := HAL.out; simp [List.getD, this]
        have hf : ∀ i, w1.frozen? ⟨h, i, none⟩ = false := fun i => frozen_of_row _ _ _ _ _ hblk
        have hfg : w1.frozen? ⟨g, a, none⟩ = false := h1.frozenAt a
        generalize wv (xs.getD a Cel.none) = old at hv
        have hax : a < xs.length := HAL.out
        clear hblk h1 h2 hmh hfull hxl
        have HT := bind_tail HO1.out c0 a c (a : Int) (by omega)
        rw [HVV.out] at HT
        go_wp2_with fail
        refine HT.mono ?_
        rintro e w4 ⟨rfl, hh4, hm4, hb4⟩
        have HF : Hid (HeapO w4 h (xs.set a c) (tr ++ [(a : Int)]) m ((lk + 1 : Nat) : Int) ∧ SMap w4 m N1 mk1 ∧ Below m w w4) := ⟨hh4, HM1.out.1.of_block hm4, HM1.out.2.2.2.trans hb4⟩
        clear HT hh4 hm4 hb4 c0 c1 hv hf hfg
        go_wp2_with fail
        go_ret
        exact ⟨rfl, HF.out.2.2, fun _ => ⟨lk + 1, N1, mk1, HF.out.1, HF.out.2.1, HM1.out.2.1, Nat.le_refl _, HM1.out.2.2.1⟩⟩
    · simp only [if_true] at HEr
      subst HEr
      clear hxl hal
      go_wp2_with fail
      go_ret
      exact ⟨rfl, HM1.out.2.2.2, fun h => by cases h⟩

end Go.Proofs.Ytfnmoaiejpkocaa

namespace Go.Proofs.Ytfnmoaiejpkocaa
open Go Go.RowKit Go.Maps
set_option linter.unusedVariables false

/-- A store and a code, as they are answered: the trail lies ahead of M, the cells behind. -/
def StoreA (A : (List Cel × List Int) × Int) (w : World) (e : Ending) (w' : World) : Prop :=
  ∃ p q c1 c2 M, e = .returned (.tuple #[.agg #[.slice p A.1.1.length c1, .slice q A.1.2.length c2], .int .i64 A.2]) ∧ OwnIU w' w.heap.size M q A.1.2.length c2 A.1.2 ∧ OwnCU w' M w'.heap.size p A.1.1.length c1 A.1.1 ∧ w.heap.size ≤ M ∧ M ≤ w'.heap.size ∧ Below w.heap.size w w'
theorem OwnCU.nil (w : World) (B U : Nat) : OwnCU w B U none 0 0 [] := ⟨rfl, [], rfl, World.ownsRow_nil _ _ _ _, fun i h => absurd h (Nat.not_lt_zero _), ⟨fun i h => absurd h (Nat.not_lt_zero _), fun i j h => absurd h (Nat.not_lt_zero _)⟩, (fun k e => by cases e), fun i h => absurd h (Nat.not_lt_zero _)⟩
theorem StoreA.none {w w' : World} (code : Int) (hb : Below w.heap.size w w') : StoreA (([], []), code) w (.returned (.tuple #[.agg #[.slice none 0 0, .slice none 0 0], .int .i64 code])) w' :=
  ⟨Option.none, Option.none, 0, 0, w.heap.size, rfl, ⟨OwnI.nil _ _ _, fun g e => by cases e⟩, OwnCU.nil _ _ _, Nat.le_refl _, hb.size, hb⟩

set_option maxHeartbeats 4000000 in
set_option maxRecDepth 100000 in
theorem implUnwind_any (p q : Option Addr) (c1 c2 : Nat) (mark top : Int) (xs : List Cel) (tr : List Int) (w : World) (hx : xs.length ≤ 1000000000) (hy : tr.length ≤ 1000000000) (hbx : ∀ a, a < xs.length → Byte (xs.getD a Cel.none).2.2) (hc : CIn w p xs) (hi : IIn w q tr) :
    Calls Try.prog 26 #[.agg #[.slice p xs.length c1, .slice q tr.length c2], .int .i64 mark, .int .i64 top] w (StoreA (unwA xs tr mark top) w) := by
  obtain ⟨W0, eW0⟩ : ∃ W0, W0 = (w.alloc (.cells #[.slice p xs.length c1, .slice q tr.length c2] 36)).alloc (.cells #[.slice none 0 0, .slice none 0 0] 36) := ⟨_, rfl⟩
  have hb0 : Below w.heap.size w W0 := by rw [eW0]; exact ((Below.refl _ _).alloc (Nat.le_refl _) _).alloc (by simp) _
  have hz0 : W0.heap.size = w.heap.size + 1 + 1 := by rw [eW0]; simp
  have k1 : W0.heap[w.heap.size + 1]? = some (.cells #[.slice none 0 0, .slice none 0 0] 36) := by
    rw [eW0]
    have := heap_alloc_new (w.alloc (.cells #[.slice p xs.length c1, .slice q tr.length c2] 36)) (.cells #[.slice none 0 0, .slice none 0 0] 36)
    simpa using this
  have HBX : Hid (∀ W, Below W0.heap.size W0 W → Box2 W (w.heap.size + 1) (.slice none 0 0) (.slice none 0 0)) := fun W hW => Box2.of_block ((hW.block (w.heap.size + 1) (by omega)).trans k1)
  have HO := heapOf_any p q c1 c2 xs tr W0 hx hy (hc.below hb0) (hi.below hb0)
  have HB0 : Hid (∀ W v0 v1, Below W0.heap.size W0 W → Below w.heap.size w ((W.setCell ⟨w.heap.size + 1, 0, none⟩ v0).setCell ⟨w.heap.size + 1, 1, none⟩ v1)) := fun W v0 v1 hW => below_put2 (Below.on hb0 hW) (by omega) _ _
  have HE0 : Hid _ := eW0
  have HZ0 : Hid _ := hz0
  have HBY : Hid _ := hbx
  clear hc hi hb0 k1 hbx hz0
  cases hs : storeB xs tr
  · have HA : Hid (unwA xs tr mark top = (([], []), 1)) := by show _ = _; unfold unwA unwB; rw [hs]; simp
    rw [HA.out]
    unfold HeapOut at HO
    rw [hs, eW0] at HO
    clear hs HA eW0
    go_enter Try.func26, Try.ntmps26
    go_wp2_with fail
    refine HO.mono ?_
    rintro e w1 ⟨v, rfl, hb, _⟩
    rw [← HE0.out] at hb
    have HR : Hid _ := (HBX.out w1 hb).put (.slice none 0 0) (.slice none 0 0)
    have HBF : Hid _ := HB0.out w1 (.slice none 0 0) (.slice none 0 0) hb
    obtain ⟨b0, b1, b2⟩ := HBX.out w1 hb
    clear hb HO HBX HB0
    go_wp2
    obtain ⟨d0, d1, _⟩ := HR.out
    exact bodyPost_ret (v := .tuple #[.agg #[.slice none 0 0, .slice none 0 0], .int .i64 1]) (by simp [results, Try.results26, go_sem, d0, d1]) rfl (StoreA.none 1 HBF.out)
  · unfold HeapOut at HO
    rw [hs, eW0] at HO
    obtain ⟨hl, ht, hsp, hwb, _⟩ := storeB_parts hs
    have hok := storeB_ok hs
    have hkn : Knds xs := hsp.knds
    have HFU : Hid (∀ a, a < xs.length → kndA xs a = 3 → 1 ≤ numA xs a ∧ numA xs a ≤ 20) := fun a ha h3 => ⟨(hsp.funs a ha h3).1, (hsp.funs a ha h3).2.1⟩
    by_cases hm : 0 ≤ mark ∧ mark ≤ tr.length
    · by_cases hp : 0 ≤ top ∧ top ≤ xs.length
      · obtain ⟨mk, rfl⟩ : ∃ k : Nat, mark = k := ⟨mark.toNat, by omega⟩
        obtain ⟨tp, rfl⟩ : ∃ k : Nat, top = k := ⟨top.toNat, by omega⟩
        have hmk : mk ≤ tr.length := by omega
        have htp : tp ≤ xs.length := by omega
        have n1 : ¬ ((mk : Int) < 0) := by omega
        have n2 : ¬ ((tr.length : Int) < mk) := by omega
        have n3 : ¬ ((tp : Int) < 0) := by omega
        have n4 : ¬ ((xs.length : Int) < tp) := by omega
        have HWH : Hid (∀ W h m lk, HeapO W h xs tr m lk → ∀ cw pw, W.cell? ⟨h, 0, none⟩ = some (.slice pw xs.length cw) → Calls Try.prog 58 #[.slice pw tp cw] W fun e w' => e = .returned (.bool (wholeF 0 (xs.take tp))) ∧ Below W.heap.size W w') := fun W h m lk H cw pw hcell => by
          have hlen : (xs.take tp).length = tp := by rw [List.length_take]; omega
          have := isWhole_any pw cw (xs.take tp) W (by omega) (fun a ha => by rw [hlen] at ha; have := hkn a (by omega); unfold kndA at this ⊢; rw [take_at _ _ _ ha]; exact this) (fun a ha h3 => by
            rw [hlen] at ha
            have e := take_at xs tp a ha
            unfold kndA at h3; rw [e] at h3
            have := HFU.out a (by omega) h3
            unfold numA at this ⊢; rw [e]; exact this) (fun hn => by
            obtain ⟨pw', cw', pt', ct', e0, _, hw, _⟩ := H.at
            rw [hcell] at e0
            simp only [Option.some.injEq, Value.slice.injEq, true_and] at e0
            obtain ⟨rfl, rfl⟩ := e0
            obtain ⟨g, rfl, hcs⟩ := hw (by rw [hlen] at hn; omega)
            exact ⟨g, rfl, fun i hi => by rw [hlen] at hi; rw [hcs i (by omega), take_at _ _ _ hi]⟩)
          rw [hlen] at this
          exact this
        clear hm hp
        cases hwf : wholeF 0 (xs.take tp)
        · have HA : Hid (unwA xs tr mk tp = (([], []), 1)) := by show _ = _; unfold unwA unwB; rw [if_neg (by simp [hwf])]
          rw [HA.out]
          rw [hwf] at HWH
          clear hwf HA eW0 hs hok hsp hwb hkn HFU
          go_enter Try.func26, Try.ntmps26
          go_wp2_with fail
          refine HO.mono ?_
          rintro e w1 ⟨v, rfl, hb, hh⟩
          obtain ⟨h, m, rfl, hho, _, hmw⟩ := hh (by trivial)
          rw [← HE0.out] at hb
          obtain ⟨pw, cw, pt, ct, hblk, hrw, _, hmh⟩ := id hho
          have hcw : xs.length ≤ cw := by
            rcases hrw.2 with ⟨_, h'⟩ | ⟨g, cap, cur, hv, _, _, hc, _⟩
            · omega
            · simp only [Value.slice.injEq] at hv; omega
          have c0 : w1.cell? ⟨h, 0, none⟩ = some (.slice pw xs.length cw) := by simp [World.cell?, hblk]
          have c1' : w1.cell? ⟨h, 1, none⟩ = some (.slice pt tr.length ct) := by simp [World.cell?, hblk]
          have HW1 := HWH.out w1 h m 0 hho cw pw c0
          have HB1 : Hid (Below W0.heap.size W0 w1) := hb
          clear hb HO hh hho hblk HWH hrw
          go_wp2_with fail
          refine HW1.mono ?_
          rintro e w2 ⟨rfl, hb2⟩
          have HB2 : Hid (Below W0.heap.size W0 w2) := Below.on HB1.out hb2
          clear hb2 HW1 c0 c1'
          have HR : Hid _ := (HBX.out w2 HB2.out).put (.slice none 0 0) (.slice none 0 0)
          have HBF : Hid _ := HB0.out w2 (.slice none 0 0) (.slice none 0 0) HB2.out
          obtain ⟨b0, b1, b2⟩ := HBX.out w2 HB2.out
          clear HBX HB0
          go_wp2
          obtain ⟨d0, d1, _⟩ := HR.out
          exact bodyPost_ret (v := .tuple #[.agg #[.slice none 0 0, .slice none 0 0], .int .i64 1]) (by simp [results, Try.results26, go_sem, d0, d1]) rfl (StoreA.none 1 HBF.out)
        · have hlx : (unwX xs tr mk tp).length = tp := by unfold unwX; rw [List.length_take, unwC_len]; simp; omega
          have hlt : (unwT tr mk).length = mk := by unfold unwT; rw [List.length_take]; simp; omega
          have hokX : ∀ a, a < (unwX xs tr mk tp).length → okW ((unwX xs tr mk tp).getD a Cel.none).1 ((unwX xs tr mk tp).getD a Cel.none).2.1 ((unwX xs tr mk tp).getD a Cel.none).2.2.length = true := fun a ha => unwX_all (P := fun c => okW c.1 c.2.1 c.2.2.length = true) hok (fun i hi => okW_var i (by omega)) a ha
          have hbyX : ∀ a, a < (unwX xs tr mk tp).length → Byte ((unwX xs tr mk tp).getD a Cel.none).2.2 := fun a ha => unwX_all (P := fun c => Byte c.2.2) HBY.out (fun i hi x hx => by cases hx) a ha
          have HES : Hid _ := store_heap (xs := unwX xs tr mk tp) (tr := unwT tr mk) (by omega) (by omega) hokX
          have HVA : Hid (∀ W h, HeapAt W h (unwX xs tr mk tp) (unwT tr mk) → Calls Try.prog 60 #[.pointer (some ⟨h, 0, none⟩)] W fun e w' => e = .returned (.bool (heapB (unwX xs tr mk tp) (unwT tr mk))) ∧ Below W.heap.size W w') := fun W h H => isValid_any h _ _ W (by omega) (by omega) hokX H
          have HST : Hid (∀ W h, HeapAt W h (unwX xs tr mk tp) (unwT tr mk) → Calls Try.prog 61 #[.pointer (some ⟨h, 0, none⟩)] W (StoreOut (unwX xs tr mk tp) (unwT tr mk) W)) := fun W h H => store_any h _ _ W (by omega) (by omega) hokX hbyX H
          have HUN : Hid (∀ W h m lk, HeapO W h xs tr m lk → Calls Try.prog 59 #[.pointer (some ⟨h, 0, none⟩), .int .i64 mk, .int .i64 tp] W fun e w' => e = .returned (.tuple #[]) ∧ HeapAt w' h (unwX xs tr mk tp) (unwT tr mk) ∧ Below h W w') := fun W h m lk H => unwind_any h xs tr m lk mk tp W hl ht hmk htp hwb H
          have hub : unwB xs tr mk tp = true := by unfold unwB; rw [hs]; simp [hwf]; omega
          rw [hwf] at HWH
          cases hsx : storeB (unwX xs tr mk tp) (unwT tr mk)
          · have HA : Hid (unwA xs tr mk tp = (([], []), 4)) := by show _ = _; unfold unwA; rw [if_pos hub, hsx]; simp
            rw [HA.out]
            have HES' : Hid (heapB (unwX xs tr mk tp) (unwT tr mk) = false) := by show _ = _; rw [← HES.out]; exact hsx
            rw [HES'.out] at HVA
            clear hwf HA eW0 hs hok hsp hwb hkn HFU hokX hbyX HES HES' hsx hub hlx hlt HST
            generalize unwX xs tr mk tp = X at HVA HUN
            generalize unwT tr mk = T at HVA HUN
            go_enter Try.func26, Try.ntmps26
            go_wp2_with fail
            refine HO.mono ?_
            rintro e w1 ⟨v, rfl, hb, hh⟩
            obtain ⟨h, m, rfl, hho, _, hmw⟩ := hh (by trivial)
            rw [← HE0.out] at hb hmw
            obtain ⟨pw, cw, pt, ct, hblk, hrw, _, hmh⟩ := id hho
            have hcw : xs.length ≤ cw := by
              rcases hrw.2 with ⟨_, h'⟩ | ⟨g, cap, cur, hv, _, _, hc, _⟩
              · omega
              · simp only [Value.slice.injEq] at hv; omega
            have c0 : w1.cell? ⟨h, 0, none⟩ = some (.slice pw xs.length cw) := by simp [World.cell?, hblk]
            have c1' : w1.cell? ⟨h, 1, none⟩ = some (.slice pt tr.length ct) := by simp [World.cell?, hblk]
            have HW1 := HWH.out w1 h m 0 hho cw pw c0
            have HB1 : Hid (Below W0.heap.size W0 w1) := hb
            have HHO : Hid (HeapO w1 h xs tr m 0) := hho
            have hhz : W0.heap.size ≤ h := by omega
            clear hb HO hh hho hblk HWH hrw hmh
            go_wp2_with fail
            refine HW1.mono ?_
            rintro e w2 ⟨rfl, hb2⟩
            have HU2 := HUN.out w2 h m 0 (HHO.out.below hb2)
            have HB2 : Hid (Below W0.heap.size W0 w2) := Below.on HB1.out hb2
            clear hb2 HW1 c0 c1' HUN HHO
            go_wp2_with fail
            refine HU2.mono ?_
            rintro e w3 ⟨rfl, hat, hb3⟩
            have HAT : Hid (HeapAt w3 h X T) := hat
            have HB3 : Hid (Below W0.heap.size W0 w3) := HB2.out.trans (hb3.mono hhz)
            clear hat hb3 HU2
            go_wp2_with fail
            refine (HVA.out w3 h HAT.out).mono ?_
            rintro e w4 ⟨rfl, hb4⟩
            have HB4 : Hid (Below W0.heap.size W0 w4) := Below.on HB3.out hb4
            clear hb4 HVA HAT
            have HR : Hid _ := (HBX.out w4 HB4.out).put (.slice none 0 0) (.slice none 0 0)
            have HBF : Hid _ := HB0.out w4 (.slice none 0 0) (.slice none 0 0) HB4.out
            obtain ⟨b0, b1, b2⟩ := HBX.out w4 HB4.out
            clear HBX HB0
            go_wp2
            obtain ⟨d0, d1, _⟩ := HR.out
            exact bodyPost_ret (v := .tuple #[.agg #[.slice none 0 0, .slice none 0 0], .int .i64 4]) (by simp [results, Try.results26, go_sem, d0, d1]) rfl (StoreA.none 4 HBF.out)
          · have HA : Hid (unwA xs tr mk tp = ((unwX xs tr mk tp, unwT tr mk), 0)) := by show _ = _; unfold unwA; rw [if_pos hub, if_pos hsx]
            rw [HA.out]
            have HES' : Hid (heapB (unwX xs tr mk tp) (unwT tr mk) = true) := by show _ = _; rw [← HES.out]; exact hsx
            rw [HES'.out] at HVA
            clear hwf HA eW0 hs hok hsp hwb hkn HFU hokX hbyX HES HES' hsx hub hlx hlt
            generalize unwX xs tr mk tp = X at HVA HUN HST ⊢
            generalize unwT tr mk = T at HVA HUN HST ⊢
            go_enter Try.func26, Try.ntmps26
            go_wp2_with fail
            refine HO.mono ?_
            rintro e w1 ⟨v, rfl, hb, hh⟩
            obtain ⟨h, m, rfl, hho, _, hmw⟩ := hh (by trivial)
            rw [← HE0.out] at hb hmw
            obtain ⟨pw, cw, pt, ct, hblk, hrw, _, hmh⟩ := id hho
            have hcw : xs.length ≤ cw := by
              rcases hrw.2 with ⟨_, h'⟩ | ⟨g, cap, cur, hv, _, _, hc, _⟩
              · omega
              · simp only [Value.slice.injEq] at hv; omega
            have c0 : w1.cell? ⟨h, 0, none⟩ = some (.slice pw xs.length cw) := by simp [World.cell?, hblk]
            have c1' : w1.cell? ⟨h, 1, none⟩ = some (.slice pt tr.length ct) := by simp [World.cell?, hblk]
            have HW1 := HWH.out w1 h m 0 hho cw pw c0
            have HB1 : Hid (Below W0.heap.size W0 w1) := hb
            have HHO : Hid (HeapO w1 h xs tr m 0) := hho
            have hhz : W0.heap.size ≤ h := by omega
            clear hb HO hh hho hblk HWH hrw hmh
            go_wp2_with fail
            refine HW1.mono ?_
            rintro e w2 ⟨rfl, hb2⟩
            have HU2 := HUN.out w2 h m 0 (HHO.out.below hb2)
            have HB2 : Hid (Below W0.heap.size W0 w2) := Below.on HB1.out hb2
            clear hb2 HW1 c0 c1' HUN HHO
            go_wp2_with fail
            refine HU2.mono ?_
            rintro e w3 ⟨rfl, hat, hb3⟩
            have HAT : Hid (HeapAt w3 h X T) := hat
            have HB3 : Hid (Below W0.heap.size W0 w3) := HB2.out.trans (hb3.mono hhz)
            clear hat hb3 HU2
            go_wp2_with fail
            refine (HVA.out w3 h HAT.out).mono ?_
            rintro e w4 ⟨rfl, hb4⟩
            have HB4 : Hid (Below W0.heap.size W0 w4) := Below.on HB3.out hb4
            have HS4 : Hid _ := HST.out w4 h (HAT.out.below hb4)
            clear hb4 HVA HAT HST
            go_wp2_with fail
            refine Calls.mono HS4.out ?_
            rintro e w5 ⟨p5, q5, c5, d5, M, rfl, hoi, hoc, hM1, hM2, hb5⟩
            have HB5 : Hid (Below W0.heap.size W0 w5) := Below.on HB4.out hb5
            have HR : Hid _ := (HBX.out w5 HB5.out).put (.slice p5 X.length c5) (.slice q5 T.length d5)
            have HBF : Hid _ := HB0.out w5 (.slice p5 X.length c5) (.slice q5 T.length d5) HB5.out
            have HF : Hid (StoreA ((X, T), 0) w (.returned (.tuple #[.agg #[.slice p5 X.length c5, .slice q5 T.length d5], .int .i64 0])) ((w5.setCell ⟨w.heap.size + 1, 0, none⟩ (.slice p5 X.length c5)).setCell ⟨w.heap.size + 1, 1, none⟩ (.slice q5 T.length d5))) := by
              have hz := HZ0.out
              have h4 := HB4.out.size
              refine ⟨p5, q5, c5, d5, M, rfl, ⟨((hoi.1.set (by simp; omega) _).set (by simp; omega) _).mono (by omega), hoi.2⟩, ?_, by omega, by simpa using hM2, HBF.out⟩
              have := (hoc.set (a := ⟨w.heap.size + 1, 0, none⟩) (by simp; omega) (.slice p5 X.length c5)).set (a := ⟨w.heap.size + 1, 1, none⟩) (by simp; omega) (.slice q5 T.length d5)
              simpa using this
            obtain ⟨b0, b1, b2⟩ := HBX.out w5 HB5.out
            clear hoi hoc hM1 hM2 hb5 HS4 HBX HB0
            go_wp2
            obtain ⟨d0, d1, _⟩ := HR.out
            exact bodyPost_ret (v := .tuple #[.agg #[.slice p5 X.length c5, .slice q5 T.length d5], .int .i64 0]) (by simp [results, Try.results26, go_sem, d0, d1]) rfl HF.out
      · have HA : Hid (unwA xs tr mark top = (([], []), 1)) := by show _ = _; unfold unwA unwB; rw [decide_eq_false hp]; simp
        rw [HA.out]
        obtain ⟨mk, rfl⟩ : ∃ k : Nat, mark = k := ⟨mark.toNat, by omega⟩
        have n1 : ¬ ((mk : Int) < 0) := by omega
        have n2 : ¬ ((tr.length : Int) < mk) := by omega
        clear hs hok hsp hwb hkn HFU HA eW0 hm
        by_cases h0 : top < 0
        · clear hp
          go_enter Try.func26, Try.ntmps26
          go_wp2_with fail
          refine HO.mono ?_
          rintro e w1 ⟨v, rfl, hb, hh⟩
          obtain ⟨h, m, rfl, hho, _, hmw⟩ := hh (by trivial)
          rw [← HE0.out] at hb
          obtain ⟨pw, cw, pt, ct, hblk, hrw, _, hmh⟩ := id hho
          have hcw : xs.length ≤ cw := by
            rcases hrw.2 with ⟨_, h'⟩ | ⟨g, cap, cur, hv, _, _, hc, _⟩
            · omega
            · simp only [Value.slice.injEq] at hv; omega
          have c0 : w1.cell? ⟨h, 0, none⟩ = some (.slice pw xs.length cw) := by simp [World.cell?, hblk]
          have c1' : w1.cell? ⟨h, 1, none⟩ = some (.slice pt tr.length ct) := by simp [World.cell?, hblk]
          have HB2 : Hid (Below W0.heap.size W0 w1) := hb
          clear hb HO hh hho hblk hrw hmh hmw
          have HR : Hid _ := (HBX.out w1 HB2.out).put (.slice none 0 0) (.slice none 0 0)
          have HBF : Hid _ := HB0.out w1 (.slice none 0 0) (.slice none 0 0) HB2.out
          obtain ⟨b0, b1, b2⟩ := HBX.out w1 HB2.out
          clear HBX HB0
          go_wp2
          obtain ⟨d0, d1, _⟩ := HR.out
          exact bodyPost_ret (v := .tuple #[.agg #[.slice none 0 0, .slice none 0 0], .int .i64 1]) (by simp [results, Try.results26, go_sem, d0, d1]) rfl (StoreA.none 1 HBF.out)
        · have n4 : (xs.length : Int) < top := by omega
          clear hp
          go_enter Try.func26, Try.ntmps26
          go_wp2_with fail
          refine HO.mono ?_
          rintro e w1 ⟨v, rfl, hb, hh⟩
          obtain ⟨h, m, rfl, hho, _, hmw⟩ := hh (by trivial)
          rw [← HE0.out] at hb
          obtain ⟨pw, cw, pt, ct, hblk, hrw, _, hmh⟩ := id hho
          have hcw : xs.length ≤ cw := by
            rcases hrw.2 with ⟨_, h'⟩ | ⟨g, cap, cur, hv, _, _, hc, _⟩
            · omega
            · simp only [Value.slice.injEq] at hv; omega
          have c0 : w1.cell? ⟨h, 0, none⟩ = some (.slice pw xs.length cw) := by simp [World.cell?, hblk]
          have c1' : w1.cell? ⟨h, 1, none⟩ = some (.slice pt tr.length ct) := by simp [World.cell?, hblk]
          have HB2 : Hid (Below W0.heap.size W0 w1) := hb
          clear hb HO hh hho hblk hrw hmh hmw
          have HR : Hid _ := (HBX.out w1 HB2.out).put (.slice none 0 0) (.slice none 0 0)
          have HBF : Hid _ := HB0.out w1 (.slice none 0 0) (.slice none 0 0) HB2.out
          obtain ⟨b0, b1, b2⟩ := HBX.out w1 HB2.out
          clear HBX HB0
          go_wp2
          obtain ⟨d0, d1, _⟩ := HR.out
          exact bodyPost_ret (v := .tuple #[.agg #[.slice none 0 0, .slice none 0 0], .int .i64 1]) (by simp [results, Try.results26, go_sem, d0, d1]) rfl (StoreA.none 1 HBF.out)
    · have HA : Hid (unwA xs tr mark top = (([], []), 1)) := by show _ = _; unfold unwA unwB; rw [decide_eq_false hm]; simp
      rw [HA.out]
      clear hs hok hsp hwb hkn HFU HA eW0
      by_cases h0 : mark < 0
      · clear hm
        go_enter Try.func26, Try.ntmps26
        go_wp2_with fail
        refine HO.mono ?_
        rintro e w1 ⟨v, rfl, hb, hh⟩
        obtain ⟨h, m, rfl, hho, _, hmw⟩ := hh (by trivial)
        rw [← HE0.out] at hb
        obtain ⟨pw, cw, pt, ct, hblk, hrw, _, hmh⟩ := id hho
        have hcw : xs.length ≤ cw := by
          rcases hrw.2 with ⟨_, h'⟩ | ⟨g, cap, cur, hv, _, _, hc, _⟩
          · omega
          · simp only [Value.slice.injEq] at hv; omega
        have c0 : w1.cell? ⟨h, 0, none⟩ = some (.slice pw xs.length cw) := by simp [World.cell?, hblk]
        have c1' : w1.cell? ⟨h, 1, none⟩ = some (.slice pt tr.length ct) := by simp [World.cell?, hblk]
        have HB2 : Hid (Below W0.heap.size W0 w1) := hb
        clear hb HO hh hho hblk hrw hmh hmw
        have HR : Hid _ := (HBX.out w1 HB2.out).put (.slice none 0 0) (.slice none 0 0)
        have HBF : Hid _ := HB0.out w1 (.slice none 0 0) (.slice none 0 0) HB2.out
        obtain ⟨b0, b1, b2⟩ := HBX.out w1 HB2.out
        clear HBX HB0
        go_wp2
        obtain ⟨d0, d1, _⟩ := HR.out
        exact bodyPost_ret (v := .tuple #[.agg #[.slice none 0 0, .slice none 0 0], .int .i64 1]) (by simp [results, Try.results26, go_sem, d0, d1]) rfl (StoreA.none 1 HBF.out)
      · have n4 : (tr.length : Int) < mark := by omega
        clear hm
        go_enter Try.func26, Try.ntmps26
        go_wp2_with fail
        refine HO.mono ?_
        rintro e w1 ⟨v, rfl, hb, hh⟩
        obtain ⟨h, m, rfl, hho, _, hmw⟩ := hh (by trivial)
        rw [← HE0.out] at hb
        obtain ⟨pw, cw, pt, ct, hblk, hrw, _, hmh⟩ := id hho
        have hcw : xs.length ≤ cw := by
          rcases hrw.2 with ⟨_, h'⟩ | ⟨g, cap, cur, hv, _, _, hc, _⟩
          · omega
          · simp only [Value.slice.injEq] at hv; omega
        have c0 : w1.cell? ⟨h, 0, none⟩ = some (.slice pw xs.length cw) := by simp [World.cell?, hblk]
        have c1' : w1.cell? ⟨h, 1, none⟩ = some (.slice pt tr.length ct) := by simp [World.cell?, hblk]
        have HB2 : Hid (Below W0.heap.size W0 w1) := hb
        clear hb HO hh hho hblk hrw hmh hmw
        have HR : Hid _ := (HBX.out w1 HB2.out).put (.slice none 0 0) (.slice none 0 0)
        have HBF : Hid _ := HB0.out w1 (.slice none 0 0) (.slice none 0 0) HB2.out
        obtain ⟨b0, b1, b2⟩ := HBX.out w1 HB2.out
        clear HBX HB0
        go_wp2
        obtain ⟨d0, d1, _⟩ := HR.out
        exact bodyPost_ret (v := .tuple #[.agg #[.slice none 0 0, .slice none 0 0], .int .i64 1]) (by simp [results, Try.results26, go_sem, d0, d1]) rfl (StoreA.none 1 HBF.out)

end Go.Proofs.Ytfnmoaiejpkocaa

