/- Bindings marked; bindings held. Own work of the verifier. -/
import Derived.Test.YtjbckdmlogjggaaBD2
namespace Go.Proofs.Ytjbckdmlogjggaa
open Go Go.RowKit
set_option linter.unusedVariables false

/-- Where the marks of binding j begin. -/
def kB (k : Int) : List Bnd → Nat → Int
  | _, 0 => k
  | [], _ + 1 => k
  | b :: r, j + 1 => kB (endC (k + 1) b.2) r j
theorem kB_succ : ∀ (bs : List Bnd) (j : Nat) (k : Int), j < bs.length → kB k bs (j + 1) = endC (kB k bs j + 1) (bs.getD j Bnd.zero).2
  | [], j, k, h => by simp at h
  | b :: r, 0, k, _ => by cases r <;> rfl
  | b :: r, j + 1, k, h => by
    have := kB_succ r j (endC (k + 1) b.2) (by simpa using h)
    simp only [kB] at this ⊢
    rw [this]; simp
theorem kB_bound : ∀ (bs : List Bnd) (j : Nat) (k : Int), k ≤ kB k bs j ∧ kB k bs j ≤ k + bs.length + 2 * tll (trm bs)
  | [], 0, k => by simp [kB, trm, tll]
  | [], j + 1, k => by simp [kB, trm, tll]
  | b :: r, 0, k => by simp only [kB]; omega
  | b :: r, j + 1, k => by
    have := kB_bound r j (endC (k + 1) b.2)
    simp only [kB, endC_eq] at this ⊢
    simp only [trm, List.map_cons, tll, List.length_cons] at this ⊢
    omega
def mixB (k : Int) (bs : List Bnd) (j : Nat) : List Bnd := (List.range bs.length).map fun i => if i < j then (kB k bs i, markC (kB k bs i + 1) (bs.getD i Bnd.zero).2) else bs.getD i Bnd.zero
theorem mixB_len (k : Int) (bs : List Bnd) (j : Nat) : (mixB k bs j).length = bs.length := by simp [mixB]
theorem mixB_at (k : Int) (bs : List Bnd) (j i : Nat) (h : i < bs.length) : (mixB k bs j).getD i Bnd.zero = if i < j then (kB k bs i, markC (kB k bs i + 1) (bs.getD i Bnd.zero).2) else bs.getD i Bnd.zero := by
  simp [mixB, List.getD, h]
theorem markC_len' (k : Int) (cs : List Cel) : (markC k cs).length = cs.length := mixC_len _ _ _
theorem mixB_itemlen (k : Int) (bs : List Bnd) (j i : Nat) (h : i < bs.length) : ((mixB k bs j).getD i Bnd.zero).2.length = (bs.getD i Bnd.zero).2.length := by
  rw [mixB_at _ _ _ _ h]
  split
  · exact markC_len' _ _
  · rfl
theorem same_bs {xs ys : List Bnd} (hl : xs.length = ys.length) (h : ∀ j, j < xs.length → xs.getD j Bnd.zero = ys.getD j Bnd.zero) : xs = ys := by
  apply List.ext_getElem hl
  intro i h1 h2
  have := h i h1
  rwa [List.getD, List.getD, List.getElem?_eq_getElem h1, List.getElem?_eq_getElem h2] at this
theorem mixB_zero (k : Int) (bs : List Bnd) : mixB k bs 0 = bs := same_bs (mixB_len ..) (fun j hj => by rw [mixB_at _ _ _ _ (by rw [mixB_len] at hj; exact hj), if_neg (Nat.not_lt_zero _)])
def markB (k : Int) (bs : List Bnd) : List Bnd := mixB k bs bs.length
def endB (k : Int) (bs : List Bnd) : Int := kB k bs bs.length

set_option maxRecDepth 100000 in
set_option maxHeartbeats 1000000 in
theorem markBd_any (B U : Nat) (p : Option Addr) (n c : Nat) (k : Int) (bs : List Bnd) (w : World) (h0 : 0 ≤ k) (h1 : k ≤ 100) (hn : bs.length + tll (trm bs) ≤ 2000000) (hown : OwnBB w B U p n c bs) :
    Calls Try.prog 19 #[.slice p n c, .int .i64 k] w fun e w' => e = .returned (.int .i64 (endB k bs)) ∧ OwnBB w' B U p n c (markB k bs) ∧ Keep B U w w' := by
  obtain ⟨ds, hss⟩ := hown
  have HNL : Hid (n = bs.length) := hss.len
  have hnn : n ≤ 2000000 := by have := hss.len; omega
  have HO : Hid (OwnBd w B U p n c bs ds) := hss
  clear hss
  go_enter Try.func19, Try.ntmps19
  go_wp2_with fail
  go_loopw [1, 5] (fun q i wr => ∃ (j : Nat) (kj : Int), j ≤ n ∧ 0 ≤ kj ∧ kj ≤ 9000000 ∧ i = .int .i64 j ∧ q = .int .i64 kj ∧ Hid (kj = kB k bs j) ∧ Hid (OwnBd wr B U p n c (mixB k bs j) ds) ∧ Hid (Keep B U w wr)) (fun _ i _ => n - (intOf i).toNat)
  case atStart => exact ⟨0, k, Nat.zero_le _, h0, by omega, rfl, rfl, by cases bs <;> rfl, by rw [mixB_zero]; exact HO, Keep.refl _ _ _⟩
  case round =>
    obtain ⟨j, kj, hj, hk0, hk1, rfl, rfl, HK, HR, HG⟩ := hrel
    by_cases hlt : j < n
    · have hjl : j < bs.length := by rw [← HNL.out]; exact hlt
      have hjm : j < (mixB k bs j).length := by rw [mixB_len]; exact hjl
      obtain ⟨g, cap, hv, hbg, hgs⟩ := HR.out.row.form (by omega)
      simp only [Value.slice.injEq, true_and] at hv
      obtain ⟨rfl, rfl⟩ := hv
      have dv := (HR.out.row.cellAt (j * 2) (by omega)).trans (pairRow_at0 _ _ _ j hjm)
      have d0 := (HR.out.row.cellAt (j * 2 + 1) (by omega)).trans (pairRow_at1 _ _ _ j hjm)
      have fz := HR.out.row.frozenAt (j * 2)
      have hst := (HR.out.row.stored (j * 2) (.int .i64 kj)).1
      have hit := HR.out.item j hjm
      have hmj : (mixB k bs j).getD j Bnd.zero = bs.getD j Bnd.zero := by rw [mixB_at _ _ _ _ hjl, if_neg (Nat.lt_irrefl j)]
      rw [hmj] at dv d0 hit
      have ht := tll_at (trm bs) j (by rw [trm_len]; exact hjl)
      rw [trm_at] at ht
      have HAW : Hid (g < (ds.getD j It.zero).2.2.1 ∨ (ds.getD j It.zero).2.2.2 ≤ g) := HR.out.away j hjm g rfl
      have hit2 : OwnCU (wr.setCell ⟨g, j * 2, none⟩ (.int .i64 kj)) _ _ _ _ _ _ := hit.other (by simp) (fun b h1 h2 h3 => Below.heap_setCell _ _ _ _ (show b ≠ g by have := HAW.out; omega))
      have HMK := markCells_any _ _ _ _ _ (kj + 1) (bs.getD j Bnd.zero).2 (wr.setCell ⟨g, j * 2, none⟩ (.int .i64 kj)) (by omega) (by omega) (by omega) hit2
      have HBD : Hid (kB k bs (j + 1) = endC (kj + 1) (bs.getD j Bnd.zero).2 ∧ 0 ≤ kB k bs (j + 1) ∧ kB k bs (j + 1) ≤ 9000000) := ⟨by rw [kB_succ _ _ _ hjl, ← HK.out], by have := kB_bound bs (j + 1) k; omega, by have := kB_bound bs (j + 1) k; omega⟩
      have HLOW : Hid _ := HR.out.low j hjm
      obtain ⟨l, el⟩ : ∃ l, l = (bs.getD j Bnd.zero).2.length := ⟨_, rfl⟩
      obtain ⟨vv, evv⟩ : ∃ l, l = (bs.getD j Bnd.zero).1 := ⟨_, rfl⟩
      obtain ⟨ek, eek⟩ : ∃ ek, ek = endC (kj + 1) (bs.getD j Bnd.zero).2 := ⟨_, rfl⟩
      have HEL : Hid (l = (bs.getD j Bnd.zero).2.length) := el
      rw [← eek] at HMK HBD
      rw [← el] at d0 HMK
      rw [← evv] at dv
      obtain ⟨ip, eip⟩ : ∃ x, x = (ds.getD j It.zero).1 := ⟨_, rfl⟩
      obtain ⟨ic, eic⟩ : ∃ x, x = (ds.getD j It.zero).2.1 := ⟨_, rfl⟩
      have HIP : Hid (ip = (ds.getD j It.zero).1 ∧ ic = (ds.getD j It.zero).2.1) := ⟨eip, eic⟩
      rw [← eip, ← eic] at d0 HMK
      have d0' : (wr.setCell ⟨g, j * 2, none⟩ (.int .i64 kj)).cell? ⟨g, j * 2 + 1, none⟩ = some (.slice ip l ic) := (World.cell?_setCell_other _ _ _ _ (by simp)).trans d0
      have HST : Hid _ := hst
      have HGB : Hid (B ≤ g ∧ g < U) := ⟨hbg, HR.out.top g rfl⟩
      clear hit hit2 hmj ht el eek eip eic hst evv
      go_wp2_with fail
      refine HMK.mono ?_
      rintro e w3 ⟨rfl, ho3, hkp⟩
      have HO3 : Hid (OwnBd w3 B U (some ⟨g, 0, none⟩) n c (mixB k bs (j + 1)) ds) := by
        have hr := HR.out
        have hlow := HLOW.out
        have haw := HAW.out
        refine ⟨by rw [mixB_len]; exact HNL.out, by rw [mixB_len, ← mixB_len k bs j]; exact hr.dlen, ?_, fun i hi => ?_, fun i hi => hr.low i (by rw [mixB_len] at hi ⊢; exact hi), fun i hi => hr.away i (by rw [mixB_len] at hi ⊢; exact hi), fun i i' h1 h2 => hr.apart i i' h1 (by rw [mixB_len] at h2 ⊢; exact h2), hr.top⟩
        · have hrow := HST.out
          have hv : (valsB ds (mixB k bs j)).set (j * 2) (.int .i64 kj) = valsB ds (mixB k bs (j + 1)) := by
            have hs := pairRow_set0 (f := fun i => .int .i64 ((mixB k bs j).getD i Bnd.zero).1) (g := fun i => .slice (ds.getD i It.zero).1 ((mixB k bs j).getD i Bnd.zero).2.length (ds.getD i It.zero).2.1) (f' := fun i => .int .i64 ((mixB k bs (j + 1)).getD i Bnd.zero).1) (n := bs.length) hjl (fun i hi hne => by
              rw [mixB_at _ _ _ _ hi, mixB_at _ _ _ _ hi]
              by_cases h2 : i < j
              · rw [if_pos h2, if_pos (by omega)]
              · rw [if_neg h2, if_neg (by omega)])
            have hkj : ((mixB k bs (j + 1)).getD j Bnd.zero).1 = kj := by rw [mixB_at _ _ _ _ hjl, if_pos (by omega), HK.out]
            rw [hkj] at hs
            unfold valsB
            rw [mixB_len, mixB_len, hs]
            exact pairRow_congr fun i hi => ⟨rfl, by rw [mixB_itemlen _ _ _ _ hi, mixB_itemlen _ _ _ _ hi]⟩
          rw [hv] at hrow
          refine ⟨hrow.1, ?_⟩
          rcases hrow.2 with h' | ⟨g', cap, cur, hv, hB, hg, r⟩
          · exact .inl h'
          · have e : g = g' := by simp only [Value.slice.injEq] at hv; exact congrArg Addr.block (Option.some.inj hv.1)
            exact .inr ⟨g', cap, cur, hv, hB, (hkp.block g' (Array.getElem?_eq_some_iff.1 hg).1 (by omega)).trans hg, r⟩
        · have hi' : i < bs.length := by rw [mixB_len] at hi; exact hi
          have him : i < (mixB k bs j).length := by rw [mixB_len]; exact hi'
          rw [mixB_itemlen _ _ _ _ hi', mixB_at _ _ _ _ hi']
          by_cases e : i = j
          · subst e
            rw [if_pos (by omega), ← HK.out, ← HEL.out, ← HIP.out.1, ← HIP.out.2]
            exact ho3
          · have old := hr.item i him
            rw [mixB_itemlen _ _ _ _ hi', mixB_at _ _ _ _ hi'] at old
            have hne : ∀ b, (ds.getD i It.zero).2.2.1 ≤ b → b < (ds.getD i It.zero).2.2.2 → b ≠ g := fun b h1 h2 => by have := hr.away i him g rfl; omega
            have old2 : OwnCU (wr.setCell ⟨g, j * 2, none⟩ (.int .i64 kj)) _ _ _ _ _ _ := old.other (by simp) (fun b _ h2 h3 => Below.heap_setCell _ _ _ _ (hne b h2 h3))
            have hap : (ds.getD i It.zero).2.2.2 ≤ (ds.getD j It.zero).2.2.1 ∨ (ds.getD j It.zero).2.2.2 ≤ (ds.getD i It.zero).2.2.1 := by
              rcases Nat.lt_or_ge i j with h | h
              · exact .inl (hr.apart i j h hjm)
              · exact .inr (hr.apart j i (by omega) him)
            have := old2.keep hkp hap
            by_cases h2 : i < j
            · rw [if_pos h2] at this
              rw [if_pos (by omega)]
              exact this
            · rw [if_neg h2] at this
              rw [if_neg (by omega)]
              exact this
      have HK3 : Hid (Keep B U w w3) := HG.out.trans (Keep.trans (⟨rfl, rfl, rfl, by simp, fun b hb hp => Below.heap_setCell _ _ _ _ (show b ≠ g by have := HGB.out; omega)⟩ : Keep B U wr (wr.setCell ⟨g, j * 2, none⟩ (.int .i64 kj))) ⟨hkp.os, hkp.tape, hkp.output, hkp.size, fun b hb hp => hkp.block b hb (by have := HLOW.out; omega)⟩)
      clear ho3 hkp HMK
      go_wp2_with fail
      go_roundw
      case rel => exact ⟨j + 1, ek, by omega, by have := HBD.out; omega, by have := HBD.out; omega, by go_num, rfl, HBD.out.1.symm, HO3, HK3⟩
      case measure => simp [intOf]; omega
    · obtain rfl : j = n := by omega
      have HE : Hid (kj = endB k bs) := by show _ = _; rw [HK.out, endB, HNL.out]
      have HF : Hid (OwnBB wr B U p j c (markB k bs)) := ⟨ds, by have := HR.out; rw [markB, ← HNL.out]; exact this⟩
      go_wp2_with fail
      go_ret
      exact ⟨ret_int HE.out, HF.out, HG.out⟩

set_option maxRecDepth 100000 in
theorem heldBd_any (p : Option Addr) (n c : Nat) (k : Int) (bs : List Bnd) (w : World) (h0 : 0 ≤ k) (h1 : k ≤ 100) (hn : bs.length + tll (trm bs) ≤ 2000000) (hl : n = bs.length) (hin : BdIn w p (markB k bs)) :
    Calls Try.prog 24 #[.slice p n c, .int .i64 k] w fun e w' => e = .returned (.int .i64 (endB k bs)) ∧ w' = w := by
  have HI : Hid (BdIn w p (markB k bs)) := hin
  have HN : Hid (n = bs.length) := hl
  have hnn : n ≤ 2000000 := by omega
  clear hin hl
  go_enter Try.func24, Try.ntmps24
  go_wp2_with fail
  go_loop [1, 5] (fun q i => ∃ (j : Nat) (kj : Int), j ≤ n ∧ 0 ≤ kj ∧ kj ≤ 9000000 ∧ i = .int .i64 j ∧ q = .int .i64 kj ∧ Hid (kj = kB k bs j)) (fun _ i => n - (intOf i).toNat)
  case atStart => exact ⟨0, k, Nat.zero_le _, h0, by omega, rfl, rfl, by cases bs <;> rfl⟩
  case round =>
    obtain ⟨j, kj, hj, hk0, hk1, rfl, rfl, HK⟩ := hrel
    by_cases hlt : j < n
    · have hjl : j < bs.length := by rw [← HN.out]; exact hlt
      obtain ⟨b, o, rfl, hcs⟩ := HI.out (by rw [markB, mixB_len]; omega)
      obtain ⟨q, qc, dv, d0, d1⟩ := hcs j (by rw [markB, mixB_len]; exact hjl)
      simp only [markB] at dv d0 d1
      rw [mixB_itemlen _ _ _ _ hjl] at d0
      rw [mixB_at _ _ _ _ hjl, if_pos hjl] at dv d1
      rw [← HK.out] at dv d1
      have ht := tll_at (trm bs) j (by rw [trm_len]; exact hjl)
      rw [trm_at] at ht
      have HH := heldCells_any q (bs.getD j Bnd.zero).2.length qc (kj + 1) (bs.getD j Bnd.zero).2 w (by omega) (by omega) (by omega) rfl d1
      have HBD : Hid (kB k bs (j + 1) = endC (kj + 1) (bs.getD j Bnd.zero).2 ∧ 0 ≤ kB k bs (j + 1) ∧ kB k bs (j + 1) ≤ 9000000) := ⟨by rw [kB_succ _ _ _ hjl, ← HK.out], by have := kB_bound bs (j + 1) k; omega, by have := kB_bound bs (j + 1) k; omega⟩
      obtain ⟨l, el⟩ : ∃ l, l = (bs.getD j Bnd.zero).2.length := ⟨_, rfl⟩
      obtain ⟨ek, eek⟩ : ∃ ek, ek = endC (kj + 1) (bs.getD j Bnd.zero).2 := ⟨_, rfl⟩
      rw [← eek] at HH HBD
      rw [← el] at HH d0
      have hek : ¬ ek < 0 := by have := HBD.out; omega
      clear hcs d1 ht el eek
      go_wp2_with fail
      refine HH.mono ?_
      rintro e w3 ⟨rfl, rfl⟩
      go_wp2_with fail
      go_round
      case rel => exact ⟨j + 1, ek, by omega, by have := HBD.out; omega, by have := HBD.out; omega, by go_num, rfl, HBD.out.1.symm⟩
      case measure => simp [intOf]; omega
    · obtain rfl : j = n := by omega
      have HE : Hid (kj = endB k bs) := by show _ = _; rw [HK.out, endB, HN.out]
      go_wp2_with fail
      go_ret
      exact ⟨ret_int HE.out, rfl⟩

end Go.Proofs.Ytjbckdmlogjggaa
