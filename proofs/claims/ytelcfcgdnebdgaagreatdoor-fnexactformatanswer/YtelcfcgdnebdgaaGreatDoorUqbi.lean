/- Texts of Tree3, SSO, SS1, LawValid. Own work of the verifier. -/
import Derived.Test.YtelcfcgdnebdgaaGreatDoorUqao
import Derived.Lib.ConvBytes
import Derived.Test.YtelcfcgdnebdgaaGreatDoorUqap
import Derived.Maps.AppendAt
import Derived.Test.YtelcfcgdnebdgaaGreatDoorUqbh
import Derived.Test.YtelcfcgdnebdgaaGreatDoorUqal
import Derived.Test.YtelcfcgdnebdgaaGreatDoorUqab
namespace Go.Proofs.YtelcfcgdnebdgaaGreatDoor
open Go Go.RowKit
set_option linter.unusedVariables false
end Go.Proofs.YtelcfcgdnebdgaaGreatDoor
namespace Go.Proofs.YtelcfcgdnebdgaaGreatDoor
open Go Go.RowKit
set_option linter.unusedVariables false
def CCIn (w : World) (p : Option Addr) (css : List (List Cel)) : Prop :=
  0 < css.length → ∃ b o, p = some ⟨b, o, none⟩ ∧ ∀ i, i < css.length → ∃ q c, w.cell? ⟨b, o + i, none⟩ = some (.slice q (css.getD i []).length c) ∧ CIn w q (css.getD i [])
theorem CCIn.below {W W' : World} {p : Option Addr} {css : List (List Cel)} (h : CCIn W p css) (hb : Below W.heap.size W W') : CCIn W' p css := fun hn => by
  obtain ⟨b, o, rfl, hc⟩ := h hn
  refine ⟨b, o, rfl, fun i hi => ?_⟩
  obtain ⟨q, c, h1, h2⟩ := hc i hi
  exact ⟨q, c, (hb.cell (World.block_lt_of_cell? _ _ h1)).trans h1, h2.below hb⟩
def vals (ds : List It) (css : List (List Cel)) : List Value := (List.range css.length).map fun i => .slice (ds.getD i It.zero).1 (css.getD i []).length (ds.getD i It.zero).2.1
theorem vals_at (ds : List It) (css : List (List Cel)) (i : Nat) (h : i < css.length) : (vals ds css)[i]? = some (.slice (ds.getD i It.zero).1 (css.getD i []).length (ds.getD i It.zero).2.1) := by simp [vals, h]
structure OwnSS (w : World) (B U : Nat) (p : Option Addr) (n c : Nat) (css : List (List Cel)) (ds : List It) : Prop where
  len : n = css.length
  dlen : ds.length = css.length
  row : w.ownsRow B 32 1 (.slice p n c) n (vals ds css)
  item : ∀ i, i < css.length → OwnCU w (ds.getD i It.zero).2.2.1 (ds.getD i It.zero).2.2.2 (ds.getD i It.zero).1 (css.getD i []).length (ds.getD i It.zero).2.1 (css.getD i [])
  low : ∀ i, i < css.length → B ≤ (ds.getD i It.zero).2.2.1 ∧ (ds.getD i It.zero).2.2.2 ≤ U
  away : ∀ i, i < css.length → ∀ g, Value.ownBlock (.slice p n c) = some g → g < (ds.getD i It.zero).2.2.1 ∨ (ds.getD i It.zero).2.2.2 ≤ g
  apart : ∀ i j, i < j → j < css.length → (ds.getD i It.zero).2.2.2 ≤ (ds.getD j It.zero).2.2.1
  top : ∀ g, Value.ownBlock (.slice p n c) = some g → g < U
def OwnCC (w : World) (B U : Nat) (p : Option Addr) (n c : Nat) (css : List (List Cel)) : Prop := ∃ ds, OwnSS w B U p n c css ds
theorem OwnCC.nil (w : World) (B U : Nat) : OwnCC w B U none 0 0 [] := ⟨[], rfl, rfl, World.ownsRow_nil _ _ _ _, fun i h => by simp at h, fun i h => by simp at h, fun i h => by simp at h, fun i j _ h => by simp at h, fun g h => by cases h⟩
theorem OwnCC.ccin {w : World} {B U : Nat} {p : Option Addr} {n c : Nat} {css : List (List Cel)} (h : OwnCC w B U p n c css) : CCIn w p css := fun hn => by
  obtain ⟨ds, h⟩ := h
  have hl := h.len
  obtain ⟨g, cap, hv, hb, hg⟩ := h.row.form (by omega)
  simp only [Value.slice.injEq, true_and] at hv
  obtain ⟨rfl, rfl⟩ := hv
  refine ⟨g, 0, rfl, fun i hi => ⟨(ds.getD i It.zero).1, (ds.getD i It.zero).2.1, ?_, (h.item i hi).toC.cin⟩⟩
  rw [Nat.zero_add, h.row.cellAt i (by omega)]
  exact vals_at ds css i hi
theorem OwnSS.other {w w' : World} {B U : Nat} {p : Option Addr} {n c : Nat} {css : List (List Cel)} {ds : List It} (h : OwnSS w B U p n c css ds) (hs : w.heap.size ≤ w'.heap.size) (hb : ∀ k, k < w.heap.size → B ≤ k → k < U → w'.heap[k]? = w.heap[k]?) : OwnSS w' B U p n c css ds := by
  refine ⟨h.len, h.dlen, ⟨h.row.1, ?_⟩, fun i hi => (h.item i hi).other hs (fun k h1 h2 h3 => hb k h1 (by have := h.low i hi; omega) (by have := h.low i hi; omega)), h.low, h.away, h.apart, h.top⟩
  rcases h.row.2 with h' | ⟨g, cap, cur, hv, hB, hg, r⟩
  · exact .inl h'
  · refine .inr ⟨g, cap, cur, hv, hB, (hb g (Array.getElem?_eq_some_iff.1 hg).1 hB (h.top g ?_)).trans hg, r⟩
    simp only [Value.slice.injEq] at hv
    rw [hv.1]; rfl
theorem OwnCC.below {w w' : World} {B U : Nat} {p : Option Addr} {n c : Nat} {css : List (List Cel)} (h : OwnCC w B U p n c css) (hb : Below w.heap.size w w') : OwnCC w' B U p n c css := by
  obtain ⟨ds, h⟩ := h
  exact ⟨ds, h.other hb.size (fun k hk _ _ => hb.block k hk)⟩
theorem OwnCC.keep {w w' : World} {B U B' U' : Nat} {p : Option Addr} {n c : Nat} {css : List (List Cel)} (h : OwnCC w B U p n c css) (hk : Keep B' U' w w') (ho : U ≤ B' ∨ U' ≤ B) : OwnCC w' B U p n c css := by
  obtain ⟨ds, h⟩ := h
  exact ⟨ds, h.other hk.size (fun k h1 h2 h3 => hk.block k h1 (by omega))⟩
theorem OwnCC.up {w : World} {B U U' : Nat} {p : Option Addr} {n c : Nat} {css : List (List Cel)} (h : OwnCC w B U p n c css) (hU : U ≤ U') : OwnCC w B U' p n c css := by
  obtain ⟨ds, h⟩ := h
  exact ⟨ds, h.len, h.dlen, h.row, h.item, fun i hi => ⟨(h.low i hi).1, Nat.le_trans (h.low i hi).2 hU⟩, h.away, h.apart, fun g hg => Nat.lt_of_lt_of_le (h.top g hg) hU⟩
end Go.Proofs.YtelcfcgdnebdgaaGreatDoor
namespace Go.Proofs.YtelcfcgdnebdgaaGreatDoor
open Go Go.RowKit
set_option linter.unusedVariables false
set_option maxRecDepth 100000 in
theorem eqSS_any (p q : Option Addr) (n m c1 c2 : Nat) (css : List (List Cel)) (w : World) (hn : n = css.length) (hm : m = css.length) (hl : css.length + tll css ≤ 100000000) (hx : CCIn w p css) (hy : CCIn w q css) :
    Calls Tryz.prog 26 #[.slice p n c1, .slice q m c2] w fun e w' => e = .returned (.bool true) ∧ Below w.heap.size w w' := by
  obtain rfl : m = n := by omega
  have HN : Hid (m = css.length) := hn
  have HX : Hid (CCIn w p css) := hx
  have HY : Hid (CCIn w q css) := hy
  have hmm : m ≤ 100000000 := by omega
  clear hn hm hx hy
  go_enter Tryz.func26, Tryz.ntmps26
  go_wp2_with fail
  go_loopw [5] (fun i wr => ∃ k : Nat, k ≤ m ∧ i = .int .i64 k ∧ Hid (Below w.heap.size w wr)) (fun i _ => m - (intOf i).toNat)
  case atStart => exact ⟨0, Nat.zero_le _, rfl, Below.refl _ _⟩
  case round =>
    obtain ⟨k, hk, rfl, HB⟩ := hrel
    by_cases hlt : k < m
    · have hkl : k < css.length := by rw [← HN.out]; exact hlt
      obtain ⟨b, o, rfl, hcx⟩ := (HX.out.below HB.out) (by omega)
      obtain ⟨b', o', rfl, hcy⟩ := (HY.out.below HB.out) (by omega)
      obtain ⟨px, qx, x0, x1⟩ := hcx k hkl
      obtain ⟨py, qy, y0, y1⟩ := hcy k hkl
      have ht := tll_at css k hkl
      have HS : Hid (∀ W, Below wr.heap.size wr W → Calls Tryz.prog 15 #[.slice px (css.getD k []).length qx, .slice py (css.getD k []).length qy] W fun e w' => e = .returned (.bool true) ∧ Below W.heap.size W w') := fun W hW => by
        have := eqCellS_any px py qx qy (css.getD k []) (css.getD k []) W (by omega) (by omega) (x1.below hW) (y1.below hW)
        have e : decide (css.getD k [] = css.getD k []) = true := by simp
        rwa [e] at this
      obtain ⟨l, el⟩ : ∃ l, l = (css.getD k []).length := ⟨_, rfl⟩
      rw [← el] at x0 y0 HS
      clear hcx hcy x1 y1 ht el
      go_wp2_with fail
      go_region_with (go_at_call 15; refine (HS.out _ (Below.refl _ _).drew).mono ?_; rintro e w2 ⟨rfl, hb2⟩)
      all_goals go_wp2_with fail
      all_goals go_roundw
      all_goals first
        | (simp [intOf]; omega)
        | exact ⟨k + 1, by omega, by go_num, Below.on HB.out ((Below.refl _ _).drew.trans hb2)⟩
    · obtain rfl : k = m := by omega
      go_wp2_with fail
      go_ret
      exact ⟨rfl, HB.out⟩
def kS (k : Int) (css : List (List Cel)) (j : Nat) : Int := (css.take j).foldl endC k
theorem kS_succ (k : Int) (css : List (List Cel)) (j : Nat) (h : j < css.length) : kS k css (j + 1) = endC (kS k css j) (css.getD j []) := by
  rw [kS, List.take_succ_eq_append_getElem h, List.foldl_append, kS, List.getD, List.getElem?_eq_getElem h]; rfl
theorem kS_bound (k : Int) : ∀ (css : List (List Cel)) (j : Nat), k ≤ kS k css j ∧ kS k css j ≤ k + 2 * tll css
  | [], j => by simp [kS, tll]
  | c :: r, 0 => by simp [kS, tll]; omega
  | c :: r, j + 1 => by
    have := kS_bound (endC k c) r j
    have e := endC_eq k c
    simp only [kS, List.take_succ_cons, List.foldl_cons, tll] at this ⊢
    omega
def mixS (k : Int) (css : List (List Cel)) (j : Nat) : List (List Cel) := (List.range css.length).map fun i => if i < j then markC (kS k css i) (css.getD i []) else css.getD i []
theorem mixS_len (k : Int) (css : List (List Cel)) (j : Nat) : (mixS k css j).length = css.length := by simp [mixS]
theorem mixS_at (k : Int) (css : List (List Cel)) (j i : Nat) (h : i < css.length) : (mixS k css j).getD i [] = if i < j then markC (kS k css i) (css.getD i []) else css.getD i [] := by
  simp [mixS, List.getD, h]
theorem markC_len (k : Int) (cs : List Cel) : (markC k cs).length = cs.length := mixC_len ..
theorem mixS_itemlen (k : Int) (css : List (List Cel)) (j i : Nat) (h : i < css.length) : ((mixS k css j).getD i []).length = (css.getD i []).length := by
  rw [mixS_at _ _ _ _ h]; split; exact markC_len _ _; rfl
theorem same_css {xs ys : List (List Cel)} (hl : xs.length = ys.length) (h : ∀ j, j < xs.length → xs.getD j [] = ys.getD j []) : xs = ys := by
  apply List.ext_getElem hl
  intro i h1 h2
  have := h i h1
  rwa [List.getD, List.getD, List.getElem?_eq_getElem h1, List.getElem?_eq_getElem h2] at this
theorem mixS_zero (k : Int) (css : List (List Cel)) : mixS k css 0 = css := same_css (mixS_len ..) (fun j hj => by rw [mixS_at _ _ _ _ (by rw [mixS_len] at hj; exact hj), if_neg (Nat.not_lt_zero _)])
theorem vals_mix (k : Int) (css : List (List Cel)) (j : Nat) (ds : List It) : vals ds (mixS k css j) = vals ds css := by
  simp only [vals, mixS_len]
  refine List.map_congr_left fun i hi => ?_
  rw [mixS_itemlen _ _ _ _ (List.mem_range.1 hi)]
def markSS (k : Int) (css : List (List Cel)) : List (List Cel) := mixS k css css.length
def endSS (k : Int) (css : List (List Cel)) : Int := kS k css css.length
theorem markSS_any (B U : Nat) (p : Option Addr) (n c : Nat) (k : Int) (css : List (List Cel)) (w : World) (h0 : 0 ≤ k) (h1 : k ≤ 5000000) (hn : css.length + tll css ≤ 2000000) (hown : OwnCC w B U p n c css) :
    Calls Tryz.prog 27 #[.slice p n c, .int .i64 k] w fun e w' => e = .returned (.int .i64 (endSS k css)) ∧ OwnCC w' B U p n c (markSS k css) ∧ Keep B U w w' := by
  obtain ⟨ds, hss⟩ := hown
  have HNL : Hid (n = css.length) := hss.len
  have hnn : n ≤ 2000000 := by have := hss.len; omega
  have HO : Hid (OwnSS w B U p n c css ds) := hss
  clear hss
  go_enter Tryz.func27, Tryz.ntmps27
  go_wp2_with fail
  go_loopw [1, 5] (fun q i wr => ∃ (j : Nat) (kj : Int), j ≤ n ∧ 0 ≤ kj ∧ kj ≤ 10000000 ∧ i = .int .i64 j ∧ q = .int .i64 kj ∧ Hid (kj = kS k css j) ∧ Hid (OwnSS wr B U p n c (mixS k css j) ds) ∧ Hid (Keep B U w wr)) (fun _ i _ => n - (intOf i).toNat)
  case atStart => exact ⟨0, k, Nat.zero_le _, h0, by omega, rfl, rfl, rfl, by rw [mixS_zero]; exact HO, Keep.refl _ _ _⟩
  case round =>
    obtain ⟨j, kj, hj, hk0, hk1, rfl, rfl, HK, HR, HG⟩ := hrel
    by_cases hlt : j < n
    · have hjl : j < css.length := by rw [← HNL.out]; exact hlt
      have hjm : j < (mixS k css j).length := by rw [mixS_len]; exact hjl
      obtain ⟨g, cap, hv, hbg, hgs⟩ := HR.out.row.form (by omega)
      simp only [Value.slice.injEq, true_and] at hv
      obtain ⟨rfl, rfl⟩ := hv
      have d0 := (HR.out.row.cellAt j (by omega)).trans (vals_at ds _ j hjm)
      have hit := HR.out.item j hjm
      have hmj : (mixS k css j).getD j [] = css.getD j [] := by rw [mixS_at _ _ _ _ hjl, if_neg (Nat.lt_irrefl j)]
      rw [hmj] at d0 hit
      have ht := tll_at css j hjl
      have HMK := markCells_any _ _ _ _ _ kj (css.getD j []) wr hk0 (by omega) (by omega) hit
      have HBD : Hid (kS k css (j + 1) = endC kj (css.getD j []) ∧ 0 ≤ kS k css (j + 1) ∧ kS k css (j + 1) ≤ 10000000) := ⟨by rw [kS_succ _ _ _ hjl, ← HK.out], by have := kS_bound k css (j + 1); omega, by have := kS_bound k css (j + 1); omega⟩
      have HLOW : Hid _ := HR.out.low j hjm
      have HAW : Hid (g < (ds.getD j It.zero).2.2.1 ∨ (ds.getD j It.zero).2.2.2 ≤ g) := HR.out.away j hjm g rfl
      obtain ⟨l, el⟩ : ∃ l, l = (css.getD j []).length := ⟨_, rfl⟩
      obtain ⟨ek, eek⟩ : ∃ ek, ek = endC kj (css.getD j []) := ⟨_, rfl⟩
      have HEL : Hid (l = (css.getD j []).length) := el
      rw [← eek] at HMK HBD
      rw [← el] at d0 HMK
      obtain ⟨ip, eip⟩ : ∃ x, x = (ds.getD j It.zero).1 := ⟨_, rfl⟩
      obtain ⟨ic, eic⟩ : ∃ x, x = (ds.getD j It.zero).2.1 := ⟨_, rfl⟩
      have HIP : Hid (ip = (ds.getD j It.zero).1 ∧ ic = (ds.getD j It.zero).2.1) := ⟨eip, eic⟩
      rw [← eip, ← eic] at d0 HMK
      clear hit hmj ht el eek eip eic
      go_wp2_with fail
      refine HMK.mono ?_
      rintro e w3 ⟨rfl, ho3, hkp⟩
      have HO3 : Hid (OwnSS w3 B U (some ⟨g, 0, none⟩) n c (mixS k css (j + 1)) ds) := by
        have hr := HR.out
        have hlow := HLOW.out
        have haw := HAW.out
        refine ⟨by rw [mixS_len]; exact HNL.out, by rw [mixS_len, ← mixS_len k css j]; exact hr.dlen, ?_, fun i hi => ?_, fun i hi => hr.low i (by rw [mixS_len] at hi ⊢; exact hi), fun i hi => hr.away i (by rw [mixS_len] at hi ⊢; exact hi), fun i i' h1 h2 => hr.apart i i' h1 (by rw [mixS_len] at h2 ⊢; exact h2), hr.top⟩
        · rw [vals_mix, ← vals_mix k css j]
          refine ⟨hr.row.1, ?_⟩
          rcases hr.row.2 with h' | ⟨g', cap, cur, hv, hB, hg, r⟩
          · exact .inl h'
          · have e : g = g' := by simp only [Value.slice.injEq] at hv; exact congrArg Addr.block (Option.some.inj hv.1)
            exact .inr ⟨g', cap, cur, hv, hB, (hkp.block g' (Array.getElem?_eq_some_iff.1 hg).1 (by omega)).trans hg, r⟩
        · have hi' : i < css.length := by rw [mixS_len] at hi; exact hi
          have him : i < (mixS k css j).length := by rw [mixS_len]; exact hi'
          rw [mixS_itemlen _ _ _ _ hi', mixS_at _ _ _ _ hi']
          by_cases e : i = j
          · subst e
            rw [if_pos (by omega), ← HK.out, ← HEL.out, ← HIP.out.1, ← HIP.out.2]
            exact ho3
          · have old := hr.item i him
            rw [mixS_itemlen _ _ _ _ hi', mixS_at _ _ _ _ hi'] at old
            have e2 : (if i < j + 1 then markC (kS k css i) (css.getD i []) else css.getD i []) = (if i < j then markC (kS k css i) (css.getD i []) else css.getD i []) := by
              by_cases e3 : i < j
              · rw [if_pos e3, if_pos (by omega)]
              · rw [if_neg e3, if_neg (by omega)]
            rw [e2]
            refine old.keep hkp ?_
            rcases Nat.lt_or_gt_of_ne e with h | h
            · exact .inl (hr.apart i j h hjm)
            · exact .inr (hr.apart j i h him)
      have HG3 : Hid (Keep B U w w3) := HG.out.trans ⟨hkp.os, hkp.tape, hkp.output, hkp.size, fun b hb hp => hkp.block b hb (by have := HLOW.out; omega)⟩
      clear ho3 hkp HMK
      go_wp2_with fail
      go_roundw
      case rel => exact ⟨j + 1, ek, by omega, by have := HBD.out; omega, by have := HBD.out; omega, by go_num, rfl, HBD.out.1.symm, HO3, HG3⟩
      case measure => simp [intOf]; omega
    · obtain rfl : j = n := by omega
      go_wp2_with fail
      go_ret
      refine ⟨ret_int ?_, ⟨ds, ?_⟩, HG.out⟩
      · rw [HK.out, HNL.out]; rfl
      · rw [markSS, ← HNL.out]; exact HR.out
end Go.Proofs.YtelcfcgdnebdgaaGreatDoor
namespace Go.Proofs.YtelcfcgdnebdgaaGreatDoor
open Go Go.RowKit
set_option linter.unusedVariables false
end Go.Proofs.YtelcfcgdnebdgaaGreatDoor
