/- Texts of BD3, BdL, LawUni. Own work of the verifier. -/
import Derived.Test.YtedlcmkhbccjgaaUqbj
import Derived.Test.YtedlcmkhbccjgaaUqav
import Derived.Test.YtedlcmkhbccjgaaUqac
namespace Go.Proofs.Ytedlcmkhbccjgaa
open Go Go.RowKit
set_option linter.unusedVariables false

/-- Where the marks of binding j begin. -/
def kB (k : Int) : List Bnd → Nat → Int
  | _, 0 => k
  | [], _ + 1 => k
  | b :: r, j + 1 => kB (endC (k + 1) b.2) r j
theorem kB_succ : ∀ (bs : List Bnd) (j : Nat) (k : Int), j < bs.length → kB k bs (j + 1) = endC (kB k bs j + 1) (bs.getD j Bnd.zero).2
  | [], j, k, h => by simp at h
  | b :: r, 0, k, _ => by cases r <;> rfl
  | b :: r, j + 1, k, h => by
    have := kB_succ r j (endC (k + 1) b.2) (by simpa using h)
    simp only [kB] at this ⊢
    rw [this]; simp
theorem kB_bound : ∀ (bs : List Bnd) (j : Nat) (k : Int), k ≤ kB k bs j ∧ kB k bs j ≤ k + bs.length + 2 * tll (trm bs)
  | [], 0, k => by simp [kB, trm, tll]
  | [], j + 1, k => by simp [kB, trm, tll]
  | b :: r, 0, k => by simp only [kB]; omega
  | b :: r, j + 1, k => by
    have := kB_bound r j (endC (k + 1) b.2)
    simp only [kB, endC_eq] at this ⊢
    simp only [trm, List.map_cons, tll, List.length_cons] at this ⊢
    omega
def mixB (k : Int) (bs : List Bnd) (j : Nat) : List Bnd := (List.range bs.length).map fun i => if i < j then (kB k bs i, markC (kB k bs i + 1) (bs.getD i Bnd.zero).2) else bs.getD i Bnd.zero
theorem mixB_len (k : Int) (bs : List Bnd) (j : Nat) : (mixB k bs j).length = bs.length := by simp [mixB]
theorem mixB_at (k : Int) (bs : List Bnd) (j i : Nat) (h : i < bs.length) : (mixB k bs j).getD i Bnd.zero = if i < j then (kB k bs i, markC (kB k bs i + 1) (bs.getD i Bnd.zero).2) else bs.getD i Bnd.zero := by
  simp [mixB, List.getD, h]
theorem markC_len' (k : Int) (cs : List Cel) : (markC k cs).length = cs.length := mixC_len _ _ _
theorem mixB_itemlen (k : Int) (bs : List Bnd) (j i : Nat) (h : i < bs.length) : ((mixB k bs j).getD i Bnd.zero).2.length = (bs.getD i Bnd.zero).2.length := by
  rw [mixB_at _ _ _ _ h]
  split
  · exact markC_len' _ _
  · rfl
theorem same_bs {xs ys : List Bnd} (hl : xs.length = ys.length) (h : ∀ j, j < xs.length → xs.getD j Bnd.zero = ys.getD j Bnd.zero) : xs = ys := by
  apply List.ext_getElem hl
  intro i h1 h2
  have := h i h1
  rwa [List.getD, List.getD, List.getElem?_eq_getElem h1, List.getElem?_eq_getElem h2] at this
theorem mixB_zero (k : Int) (bs : List Bnd) : mixB k bs 0 = bs := same_bs (mixB_len ..) (fun j hj => by rw [mixB_at _ _ _ _ (by rw [mixB_len] at hj; exact hj), if_neg (Nat.not_lt_zero _)])
def markB (k : Int) (bs : List Bnd) : List Bnd := mixB k bs bs.length
def endBd (k : Int) (bs : List Bnd) : Int := kB k bs bs.length

set_option maxRecDepth 100000 in
set_option maxHeartbeats 1000000 in
theorem markBd_any (B U : Nat) (p : Option Addr) (n c : Nat) (k : Int) (bs : List Bnd) (w : World) (h0 : 0 ≤ k) (h1 : k ≤ 100) (hn : bs.length + tll (trm bs) ≤ 2000000) (hown : OwnBB w B U p n c bs) :
    Calls Try.prog 19 #[.slice p n c, .int .i64 k] w fun e w' => e = .returned (.int .i64 (endBd k bs)) ∧ OwnBB w' B U p n c (markB k bs) ∧ Keep B U w w' := by
  obtain ⟨ds, hss⟩ := hown
  have HNL : Hid (n = bs.length) := hss.len
  have hnn : n ≤ 2000000 := by have := hss.len; omega
  have HO : Hid (OwnBd w B U p n c bs ds) := hss
  clear hss
  go_enter Try.func19, Try.ntmps19
  go_wp2_with fail
  go_loopw [1, 5] (fun q i wr => ∃ (j : Nat) (kj : Int), j ≤ n ∧ 0 ≤ kj ∧ kj ≤ 9000000 ∧ i = .int .i64 j ∧ q = .int .i64 kj ∧ Hid (kj = kB k bs j) ∧ Hid (OwnBd wr B U p n c (mixB k bs j) ds) ∧ Hid (Keep B U w wr)) (fun _ i _ => n - (intOf i).toNat)
  case atStart => exact ⟨0, k, Nat.zero_le _, h0, by omega, rfl, rfl, by cases bs <;> rfl, by rw [mixB_zero]; exact HO, Keep.refl _ _ _⟩
  case round =>
    obtain ⟨j, kj, hj, hk0, hk1, rfl, rfl, HK, HR, HG⟩ := hrel
    by_cases hlt : j < n
    · have hjl : j < bs.length := by rw [← HNL.out]; exact hlt
      have hjm : j < (mixB k bs j).length := by rw [mixB_len]; exact hjl
      obtain ⟨g, cap, hv, hbg, hgs⟩ := HR.out.row.form (by omega)
      simp only [Value.slice.injEq, true_and] at hv
      obtain ⟨rfl, rfl⟩ := hv
      have dv := (HR.out.row.cellAt (j * 2) (by omega)).trans (pairRow_at0 _ _ _ j hjm)
      have d0 := (HR.out.row.cellAt (j * 2 + 1) (by omega)).trans (pairRow_at1 _ _ _ j hjm)
      have fz := HR.out.row.frozenAt (j * 2)
      have hst := (HR.out.row.stored (j * 2) (.int .i64 kj)).1
      have hit := HR.out.item j hjm
      have hmj : (mixB k bs j).getD j Bnd.zero = bs.getD j Bnd.zero := by rw [mixB_at _ _ _ _ hjl, if_neg (Nat.lt_irrefl j)]
      rw [hmj] at dv d0 hit
      have ht := tll_at (trm bs) j (by rw [trm_len]; exact hjl)
      rw [trm_at] at ht
      have HAW : Hid (g < (ds.getD j It.zero).2.2.1 ∨ (ds.getD j It.zero).2.2.2 ≤ g) := HR.out.away j hjm g rfl
      have hit2 : OwnCU (wr.setCell ⟨g, j * 2, none⟩ (.int .i64 kj)) _ _ _ _ _ _ := hit.other (by simp) (fun b h1 h2 h3 => Below.heap_setCell _ _ _ _ (show b ≠ g by have := HAW.out; omega))
      have HMK := markCells_any _ _ _ _ _ (kj + 1) (bs.getD j Bnd.zero).2 (wr.setCell ⟨g, j * 2, none⟩ (.int .i64 kj)) (by omega) (by omega) (by omega) hit2
      have HBD : Hid (kB k bs (j + 1) = endC (kj + 1) (bs.getD j Bnd.zero).2 ∧ 0 ≤ kB k bs (j + 1) ∧ kB k bs (j + 1) ≤ 9000000) := ⟨by rw [kB_succ _ _ _ hjl, ← HK.out], by have := kB_bound bs (j + 1) k; omega, by have := kB_bound bs (j + 1) k; omega⟩
      have HLOW : Hid _ := HR.out.low j hjm
      obtain ⟨l, el⟩ : ∃ l, l = (bs.getD j Bnd.zero).2.length := ⟨_, rfl⟩
      obtain ⟨vv, evv⟩ : ∃ l, l = (bs.getD j Bnd.zero).1 := ⟨_, rfl⟩
      obtain ⟨ek, eek⟩ : ∃ ek, ek = endC (kj + 1) (bs.getD j Bnd.zero).2 := ⟨_, rfl⟩
      have HEL : Hid (l = (bs.getD j Bnd.zero).2.length) := el
      rw [← eek] at HMK HBD
      rw [← el] at d0 HMK
      rw [← evv] at dv
      obtain ⟨ip, eip⟩ : ∃ x, x = (ds.getD j It.zero).1 := ⟨_, rfl⟩
      obtain ⟨ic, eic⟩ : ∃ x, x = (ds.getD j It.zero).2.1 := ⟨_, rfl⟩
      have HIP : Hid (ip = (ds.getD j It.zero).1 ∧ ic = (ds.getD j It.zero).2.1) := ⟨eip, eic⟩
      rw [← eip, ← eic] at d0 HMK
      have d0' : (wr.setCell ⟨g, j * 2, none⟩ (.int .i64 kj)).cell? ⟨g, j * 2 + 1, none⟩ = some (.slice ip l ic) := (World.cell?_setCell_other _ _ _ _ (by simp)).trans d0
      have HST : Hid _ := hst
      have HGB : Hid (B ≤ g ∧ g < U) := ⟨hbg, HR.out.top g rfl⟩
      clear hit hit2 hmj ht el eek eip eic hst evv
      go_wp2_with fail
      refine HMK.mono ?_
      rintro e w3 ⟨rfl, ho3, hkp⟩
      have HO3 : Hid (OwnBd w3 B U (some ⟨g, 0, none⟩) n c (mixB k bs (j + 1)) ds) := by
        have hr := HR.out
        have hlow := HLOW.out
        have haw := HAW.out
        refine ⟨by rw [mixB_len]; exact HNL.out, by rw [mixB_len, ← mixB_len k bs j]; exact hr.dlen, ?_, fun i hi => ?_, fun i hi => hr.low i (by rw [mixB_len] at hi ⊢; exact hi), fun i hi => hr.away i (by rw [mixB_len] at hi ⊢; exact hi), fun i i' h1 h2 => hr.apart i i' h1 (by rw [mixB_len] at h2 ⊢; exact h2), hr.top⟩
        · have hrow := HST.out
          have hv : (valsB ds (mixB k bs j)).set (j * 2) (.int .i64 kj) = valsB ds (mixB k bs (j + 1)) := by
            have hs := pairRow_set0 (f := fun i => .int .i64 ((mixB k bs j).getD i Bnd.zero).1) (g := fun i => .slice (ds.getD i It.zero).1 ((mixB k bs j).getD i Bnd.zero).2.length (ds.getD i It.zero).2.1) (f' := fun i => .int .i64 ((mixB k bs (j + 1)).getD i Bnd.zero).1) (n := bs.length) hjl (fun i hi hne => by
              rw [mixB_at _ _ _ _ hi, mixB_at _ _ _ _ hi]
              by_cases h2 : i < j
              · rw [if_pos h2, if_pos (by omega)]
              · rw [if_neg h2, if_neg (by omega)])
            have hkj : ((mixB k bs (j + 1)).getD j Bnd.zero).1 = kj := by rw [mixB_at _ _ _ _ hjl, if_pos (by omega), HK.out]
            rw [hkj] at hs
            unfold valsB
            rw [mixB_len, mixB_len, hs]
            exact pairRow_congr fun i hi => ⟨rfl, by rw [mixB_itemlen _ _ _ _ hi, mixB_itemlen _ _ _ _ hi]⟩
          rw [hv] at hrow
          refine ⟨hrow.1, ?_⟩
          rcases hrow.2 with h' | ⟨g', cap, cur, hv, hB, hg, r⟩
          · exact .inl h'
          · have e : g = g' := by simp only [Value.slice.injEq] at hv; exact congrArg Addr.block (Option.some.inj hv.1)
            exact .inr ⟨g', cap, cur, hv, hB, (hkp.block g' (Array.getElem?_eq_some_iff.1 hg).1 (by omega)).trans hg, r⟩
        · have hi' : i < bs.length := by rw [mixB_len] at hi; exact hi
          have him : i < (mixB k bs j).length := by rw [mixB_len]; exact hi'
          rw [mixB_itemlen _ _ _ _ hi', mixB_at _ _ _ _ hi']
          by_cases e : i = j
          · subst e
            rw [if_pos (by omega), ← HK.out, ← HEL.out, ← HIP.out.1, ← HIP.out.2]
            exact ho3
          · have old := hr.item i him
            rw [mixB_itemlen _ _ _ _ hi', mixB_at _ _ _ _ hi'] at old
            have hne : ∀ b, (ds.getD i It.zero).2.2.1 ≤ b → b < (ds.getD i It.zero).2.2.2 → b ≠ g := fun b h1 h2 => by have := hr.away i him g rfl; omega
            have old2 : OwnCU (wr.setCell ⟨g, j * 2, none⟩ (.int .i64 kj)) _ _ _ _ _ _ := old.other (by simp) (fun b _ h2 h3 => Below.heap_setCell _ _ _ _ (hne b h2 h3))
            have hap : (ds.getD i It.zero).2.2.2 ≤ (ds.getD j It.zero).2.2.1 ∨ (ds.getD j It.zero).2.2.2 ≤ (ds.getD i It.zero).2.2.1 := by
              rcases Nat.lt_or_ge i j with h | h
              · exact .inl (hr.apart i j h hjm)
              · exact .inr (hr.apart j i (by omega) him)
            have := old2.keep hkp hap
            by_cases h2 : i < j
            · rw [if_pos h2] at this
              rw [if_pos (by omega)]
              exact this
            · rw [if_neg h2] at this
              rw [if_neg (by omega)]
              exact this
      have HK3 : Hid (Keep B U w w3) := HG.out.trans (Keep.trans (⟨rfl, rfl, rfl, by simp, fun b hb hp => Below.heap_setCell _ _ _ _ (show b ≠ g by have := HGB.out; omega)⟩ : Keep B U wr (wr.setCell ⟨g, j * 2, none⟩ (.int .i64 kj))) ⟨hkp.os, hkp.tape, hkp.output, hkp.size, fun b hb hp => hkp.block b hb (by have := HLOW.out; omega)⟩)
      clear ho3 hkp HMK
      go_wp2_with fail
      go_roundw
      case rel => exact ⟨j + 1, ek, by omega, by have := HBD.out; omega, by have := HBD.out; omega, by go_num, rfl, HBD.out.1.symm, HO3, HK3⟩
      case measure => simp [intOf]; omega
    · obtain rfl : j = n := by omega
      have HE : Hid (kj = endBd k bs) := by show _ = _; rw [HK.out, endBd, HNL.out]
      have HF : Hid (OwnBB wr B U p j c (markB k bs)) := ⟨ds, by have := HR.out; rw [markB, ← HNL.out]; exact this⟩
      go_wp2_with fail
      go_ret
      exact ⟨ret_int HE.out, HF.out, HG.out⟩

set_option maxRecDepth 100000 in
theorem heldBd_any (p : Option Addr) (n c : Nat) (k : Int) (bs : List Bnd) (w : World) (h0 : 0 ≤ k) (h1 : k ≤ 100) (hn : bs.length + tll (trm bs) ≤ 2000000) (hl : n = bs.length) (hin : BdIn w p (markB k bs)) :
    Calls Try.prog 24 #[.slice p n c, .int .i64 k] w fun e w' => e = .returned (.int .i64 (endBd k bs)) ∧ w' = w := by
  have HI : Hid (BdIn w p (markB k bs)) := hin
  have HN : Hid (n = bs.length) := hl
  have hnn : n ≤ 2000000 := by omega
  clear hin hl
  go_enter Try.func24, Try.ntmps24
  go_wp2_with fail
  go_loop [1, 5] (fun q i => ∃ (j : Nat) (kj : Int), j ≤ n ∧ 0 ≤ kj ∧ kj ≤ 9000000 ∧ i = .int .i64 j ∧ q = .int .i64 kj ∧ Hid (kj = kB k bs j)) (fun _ i => n - (intOf i).toNat)
  case atStart => exact ⟨0, k, Nat.zero_le _, h0, by omega, rfl, rfl, by cases bs <;> rfl⟩
  case round =>
    obtain ⟨j, kj, hj, hk0, hk1, rfl, rfl, HK⟩ := hrel
    by_cases hlt : j < n
    · have hjl : j < bs.length := by rw [← HN.out]; exact hlt
      obtain ⟨b, o, rfl, hcs⟩ := HI.out (by rw [markB, mixB_len]; omega)
      obtain ⟨q, qc, dv, d0, d1⟩ := hcs j (by rw [markB, mixB_len]; exact hjl)
      simp only [markB] at dv d0 d1
      rw [mixB_itemlen _ _ _ _ hjl] at d0
      rw [mixB_at _ _ _ _ hjl, if_pos hjl] at dv d1
      rw [← HK.out] at dv d1
      have ht := tll_at (trm bs) j (by rw [trm_len]; exact hjl)
      rw [trm_at] at ht
      have HH := heldCells_any q (bs.getD j Bnd.zero).2.length qc (kj + 1) (bs.getD j Bnd.zero).2 w (by omega) (by omega) (by omega) rfl d1
      have HBD : Hid (kB k bs (j + 1) = endC (kj + 1) (bs.getD j Bnd.zero).2 ∧ 0 ≤ kB k bs (j + 1) ∧ kB k bs (j + 1) ≤ 9000000) := ⟨by rw [kB_succ _ _ _ hjl, ← HK.out], by have := kB_bound bs (j + 1) k; omega, by have := kB_bound bs (j + 1) k; omega⟩
      obtain ⟨l, el⟩ : ∃ l, l = (bs.getD j Bnd.zero).2.length := ⟨_, rfl⟩
      obtain ⟨ek, eek⟩ : ∃ ek, ek = endC (kj + 1) (bs.getD j Bnd.zero).2 := ⟨_, rfl⟩
      rw [← eek] at HH HBD
      rw [← el] at HH d0
      have hek : ¬ ek < 0 := by have := HBD.out; omega
      clear hcs d1 ht el eek
      go_wp2_with fail
      refine HH.mono ?_
      rintro e w3 ⟨rfl, rfl⟩
      go_wp2_with fail
      go_round
      case rel => exact ⟨j + 1, ek, by omega, by have := HBD.out; omega, by have := HBD.out; omega, by go_num, rfl, HBD.out.1.symm⟩
      case measure => simp [intOf]; omega
    · obtain rfl : j = n := by omega
      have HE : Hid (kj = endBd k bs) := by show _ = _; rw [HK.out, endBd, HN.out]
      go_wp2_with fail
      go_ret
      exact ⟨ret_int HE.out, rfl⟩

end Go.Proofs.Ytedlcmkhbccjgaa

namespace Go.Proofs.Ytedlcmkhbccjgaa
open Go Go.RowKit
set_option linter.unusedVariables false

theorem markCellsL (B U : Nat) (p : Option Addr) (n c : Nat) (k : Int) (cs : List Cel) (w : World) (h0 : 0 ≤ k) (h1 : k ≤ 10000000000) (hn : cs.length + tl cs ≤ 500000000) (hown : OwnCU w B U p n c cs) :
    Calls Try.prog 20 #[.slice p n c, .int .i64 k] w fun e w' => e = .returned (.int .i64 (endC k cs)) ∧ OwnCU w' B U p n c (markC k cs) ∧ Keep B U w w' := by
  have hnl := hown.1
  have HO : Hid (OwnCU w B U p n c cs) := hown
  clear hown
  have HNL : Hid (n = cs.length) := hnl
  clear hnl
  go_enter Try.func20, Try.ntmps20
  go_wp2
  go_loopw [1, 5] (fun q i wr => ∃ (j : Nat) (kj : Int), j ≤ n ∧ 0 ≤ kj ∧ kj ≤ 100000000000 ∧ i = .int .i64 j ∧ q = .int .i64 kj ∧ Hid (kj = kAt k cs j) ∧ Hid (OwnCU wr B U p n c (mixC k cs j)) ∧ Hid (Keep B U w wr)) (fun _ i _ => n - (intOf i).toNat)
  case atStart => exact ⟨0, k, Nat.zero_le _, h0, by omega, rfl, rfl, (kAt_zero _ _).symm, by rw [mixC_zero]; exact HO, Keep.refl _ _ _⟩
  case round =>
    obtain ⟨j, kj, hj, hk0, hk1, rfl, rfl, HK, HR, HG⟩ := hrel
    by_cases hlt : j < n
    · obtain ⟨hn1, rs, hl, hr, hf, ha, hu, ht⟩ := HR.out
      obtain ⟨g, cap, hv, hbg, hgs⟩ := hr.form (by omega)
      simp only [Value.slice.injEq, true_and] at hv
      obtain ⟨rfl, rfl⟩ := hv
      have hjl : j < cs.length := by rw [← HNL.out]; exact hlt
      rw [mixC_len] at hl hf ht
      obtain ⟨a0, a1, a2⟩ := flat_at rs j (by omega)
      have d0 := (hr.cellAt (j * 3) (by omega)).trans a0
      have d1 := (hr.cellAt (j * 3 + 1) (by omega)).trans a1
      have d2 := (hr.cellAt (j * 3 + 2) (by omega)).trans a2
      have ff := hr.frozenAt
      obtain ⟨q0, q1, q2⟩ := hf j hjl
      have hlen : (rs.getD j RC.zero).2.2.2.1 = (cs.getD j Cel.none).2.2.length := by
        rw [q2.1, mixC_at _ _ _ _ hjl, if_neg (Nat.lt_irrefl j)]
      have htl := tl_at cs j hjl
      have hkb : kj + 1 + 1 ≤ 1000000000000 := by omega
      have HMARK := markT_any B (rs.getD j RC.zero).2.2.1 (rs.getD j RC.zero).2.2.2.1 (rs.getD j RC.zero).2.2.2.2 (kj + 1 + 1) _ _ (by omega) hkb (by omega) ((q2.setCell (a := ⟨g, j * 3, none⟩) (fun hp e' => ha.1 j (by omega) hp e') (.int .i64 kj)).setCell (a := ⟨g, j * 3 + 1, none⟩) (fun hp e' => ha.1 j (by omega) hp e') (.int .i64 (kj + 1)))
      have HONE : Hid (∀ w3 ms, OwnT w3 B (rs.getD j RC.zero).2.2.1 (rs.getD j RC.zero).2.2.2.1 (rs.getD j RC.zero).2.2.2.2 ms → ((wr.setCell ⟨g, j * 3, none⟩ (.int .i64 kj)).setCell ⟨g, j * 3 + 1, none⟩ (.int .i64 (kj + 1))).grownBy w3 (tb (rs.getD j RC.zero).2.2.1 (rs.getD j RC.zero).2.2.2.1) →
          OwnCU w3 B U (some ⟨g, 0, none⟩) n c ((mixC k cs j).set j (kj, kj + 1, ms)) ∧ Keep B U wr w3) := fun w3 ms h1 h2 => mark_one hn1 (by rw [mixC_len]; exact hl) hr (by rw [mixC_len]; exact hf) ha (hu g rfl) (by rw [mixC_len]; exact ht) (by rw [mixC_len]; exact hjl) kj (kj + 1) ms h1 h2
      have HS1 : Hid _ := kAt_succ k cs j hjl
      have HS2 : Hid _ := mixC_succ k cs j hjl
      have HLEN : Hid _ := hlen
      have hbound : kAt k cs (j + 1) ≤ 100000000000 := by have := tl_take_le cs (j + 1); simp only [kAt]; omega
      have HBD : Hid _ := hbound
      obtain ⟨tp, etp⟩ : ∃ x, x = (rs.getD j RC.zero).2.2.1 := ⟨_, rfl⟩
      obtain ⟨tn, etn⟩ : ∃ x, x = (rs.getD j RC.zero).2.2.2.1 := ⟨_, rfl⟩
      obtain ⟨tc, etc⟩ : ∃ x, x = (rs.getD j RC.zero).2.2.2.2 := ⟨_, rfl⟩
      rw [← etp, ← etn, ← etc] at HMARK d2 HONE
      rw [← etn] at HLEN hlen
      have htn : tn ≤ 500000000 := by omega
      clear etp etn etc hn1 hl hr hf ha hu ht a0 a1 a2 q0 q1 q2 hlen htl HR HO hbound
      go_wp2_with fail
      refine HMARK.mono ?_
      rintro e w3 ⟨rfl, ho3, hg3⟩
      have HFIN : Hid _ := HONE.out w3 _ ho3 hg3
      clear ho3 hg3
      go_wp2_with fail
      have e1 := HS1.out
      have e2 := HS2.out
      have e3 := HK.out
      have e4 := HLEN.out
      have e5 := HBD.out
      have hfin := HFIN.out
      go_roundw
      case rel => exact ⟨j + 1, kj + 1 + 1 + tn, by omega, by omega, by rw [e1] at e5; omega, by go_num, rfl, by show _ = _; rw [e1]; omega, by
        show OwnCU _ _ _ _ _ _ _
        rw [e2, markedC, ← e3, ← e4]
        exact hfin.1, HG.out.trans hfin.2⟩
      case measure => simp [intOf]; omega
    · obtain rfl : j = n := by omega
      go_wp2_with fail
      go_ret
      refine ⟨ret_int ?_, ?_, HG.out⟩
      · rw [HK.out, HNL.out]; rfl
      · have := HR.out
        rw [markC, ← HNL.out]
        exact this

theorem heldCellsL (p : Option Addr) (n c : Nat) (k : Int) (cs : List Cel) (w : World) (h0 : 0 ≤ k) (h1 : k ≤ 10000000000) (hn : cs.length + tl cs ≤ 500000000) (hl : n = cs.length) (hin : CIn w p (markC k cs)) :
    Calls Try.prog 21 #[.slice p n c, .int .i64 k] w fun e w' => e = .returned (.int .i64 (endC k cs)) ∧ w' = w := by
  have HI : Hid (CIn w p (markC k cs)) := hin
  have HNL : Hid (n = cs.length) := hl
  clear hin
  have hnn : n ≤ 500000000 := by omega
  clear hl
  go_enter Try.func21, Try.ntmps21
  go_wp2_with fail
  go_loop [1, 5] (fun q i => ∃ (j : Nat) (kj : Int), j ≤ n ∧ 0 ≤ kj ∧ kj ≤ 100000000000 ∧ i = .int .i64 j ∧ q = .int .i64 kj ∧ Hid (kj = kAt k cs j)) (fun _ i => n - (intOf i).toNat)
  case atStart => exact ⟨0, k, Nat.zero_le _, h0, by omega, rfl, rfl, (kAt_zero _ _).symm⟩
  case round =>
    obtain ⟨j, kj, hj, hk0, hk1, rfl, rfl, HK⟩ := hrel
    by_cases hlt : j < n
    · have hjl : j < cs.length := by rw [← HNL.out]; exact hlt
      obtain ⟨b, o, rfl, hcs⟩ := HI.out (by rw [markC, mixC_len]; omega)
      obtain ⟨q, qc, d0, d1, d2, d3⟩ := hcs j (by rw [markC, mixC_len]; exact hjl)
      have hm : (markC k cs).getD j Cel.none = markedC k cs j := by rw [markC, mixC_at _ _ _ _ hjl, if_pos hjl]
      rw [hm] at d0 d1 d2 d3
      simp only [markedC, ← HK.out, marks_len] at d0 d1 d2 d3
      have htl := tl_at cs j hjl
      have HS1 : Hid _ := kAt_succ k cs j hjl
      have hbound : kAt k cs (j + 1) ≤ 100000000000 := by have := tl_take_le cs (j + 1); simp only [kAt]; omega
      have HBD : Hid _ := hbound
      obtain ⟨tn, etn⟩ : ∃ x, x = (cs.getD j Cel.none).2.2.length := ⟨_, rfl⟩
      rw [← etn] at d2 d3 HS1
      have htn : tn ≤ 500000000 := by omega
      have hpos : ¬ (kj + 1 + 1 + (tn : Int) < 0) := by omega
      have HH := held_any q tn qc (kj + 1 + 1) w (by omega) (by omega) (by omega) d3
      clear etn hcs hm htl HI hbound d3
      go_wp2_with fail
      refine HH.mono ?_
      rintro e w3 ⟨rfl, rfl⟩
      go_wp2_with fail
      have e1 := HS1.out
      have e3 := HK.out
      have e5 := HBD.out
      go_round
      case rel => exact ⟨j + 1, kj + 1 + 1 + tn, by omega, by omega, by rw [e1] at e5; omega, by go_num, rfl, by show _ = _; rw [e1]; omega⟩
      case measure => simp [intOf]; omega
    · obtain rfl : j = n := by omega
      clear HI
      go_wp2_with fail
      go_ret
      exact ⟨ret_int (by rw [HK.out, HNL.out]; rfl), rfl⟩

set_option maxRecDepth 100000 in
theorem eqBdL (p q : Option Addr) (n m c1 c2 : Nat) (bs : List Bnd) (w : World) (hn : n = bs.length) (hm : m = bs.length) (hl : bs.length + tll (trm bs) ≤ 900000000) (hx : BdIn w p bs) (hy : BdIn w q bs) :
    Calls Try.prog 18 #[.slice p n c1, .slice q m c2] w fun e w' => e = .returned (.bool true) ∧ Below w.heap.size w w' := by
  obtain rfl : n = m := by omega
  have HX : Hid (BdIn w p bs ∧ BdIn w q bs) := ⟨hx, hy⟩
  have HN : Hid (n = bs.length) := hn
  have hnb : n ≤ 900000000 := by omega
  clear hx hy hn hm
  go_enter Try.func18, Try.ntmps18
  go_wp2_with fail
  go_loopw [5] (fun i wr => ∃ (k : Nat), k ≤ n ∧ i = .int .i64 k ∧ Hid (Below w.heap.size w wr)) (fun i _ => n - (intOf i).toNat)
  case atStart => exact ⟨0, Nat.zero_le _, rfl, Below.refl _ _⟩
  case round =>
    obtain ⟨k, hk, rfl, HB⟩ := hrel
    by_cases hlt : k < n
    · have hkl : k < bs.length := by rw [← HN.out]; exact hlt
      obtain ⟨b, o, rfl, hcx⟩ := (HX.out.1.below HB.out) (by omega)
      obtain ⟨b', o', rfl, hcy⟩ := (HX.out.2.below HB.out) (by omega)
      obtain ⟨q1, e1, d0, d1, d2⟩ := hcx k hkl
      obtain ⟨q2, e2, d0', d1', d2'⟩ := hcy k hkl
      have hbd := tll_at (trm bs) k (by rw [trm_len]; exact hkl)
      rw [trm_at] at hbd
      obtain ⟨m, em⟩ : ∃ x, x = (bs.getD k Bnd.zero).2.length := ⟨_, rfl⟩
      obtain ⟨vv, evv⟩ : ∃ x, x = (bs.getD k Bnd.zero).1 := ⟨_, rfl⟩
      have HS : Hid (∀ W, Below wr.heap.size wr W → Calls Try.prog 49 #[.agg #[.int .i64 vv, .slice q1 m e1], .agg #[.int .i64 vv, .slice q2 m e2]] W fun e w' => e = .returned (.bool true) ∧ Below W.heap.size W w') := fun W hW => eqBinding_any vv q1 q2 m e1 e2 _ W em (by omega) (d2.below hW) (d2'.below hW)
      rw [← em] at d1 d1'
      rw [← evv] at d0 d0'
      have hk0 : (0 : Int) ≤ (k : Int) := by omega
      have hkn : (k : Int) < (n : Int) := by omega
      clear hcx hcy d2 d2' hbd em evv
      go_wp2_with fail
      go_region_held3 (fun W => W.cell? ⟨b, o + k * 2, none⟩ = some (.int .i64 vv) ∧ W.cell? ⟨b, o + k * 2 + 1, none⟩ = some (.slice q1 m e1) ∧ W.cell? ⟨b', o' + k * 2, none⟩ = some (.int .i64 vv) ∧ W.cell? ⟨b', o' + k * 2 + 1, none⟩ = some (.slice q2 m e2)) (first | exact kc | go_keep)
        ((go_at_call 49; refine (HS.out _ (Below.refl wr.heap.size wr).drew).mono ?_; rintro e w3 ⟨rfl, hb3⟩; have hb4 : Below wr.heap.size wr w3 := ((Below.refl wr.heap.size wr).drew).trans hb3; have kc : w3.cell? ⟨b, o + k * 2, none⟩ = some (.int .i64 vv) ∧ w3.cell? ⟨b, o + k * 2 + 1, none⟩ = some (.slice q1 m e1) ∧ w3.cell? ⟨b', o' + k * 2, none⟩ = some (.int .i64 vv) ∧ w3.cell? ⟨b', o' + k * 2 + 1, none⟩ = some (.slice q2 m e2) := ⟨(hb4.cell (World.block_lt_of_cell? _ _ d0)).trans d0, (hb4.cell (World.block_lt_of_cell? _ _ d1)).trans d1, (hb4.cell (World.block_lt_of_cell? _ _ d0')).trans d0', (hb4.cell (World.block_lt_of_cell? _ _ d1')).trans d1'⟩))
      have HB3 : Hid (Below w.heap.size w w3) := Below.on HB.out hb4
      clear hb3 hb4 kc
      go_wp2_with fail
      go_roundw
      case rel => exact ⟨k + 1, by omega, by go_num, HB3⟩
      case measure => simp [intOf]; omega
    · obtain rfl : k = n := by omega
      go_wp2_with fail
      go_ret
      exact ⟨rfl, HB.out⟩

set_option maxRecDepth 100000 in
set_option maxHeartbeats 1000000 in
theorem markBdL (B U : Nat) (p : Option Addr) (n c : Nat) (k : Int) (bs : List Bnd) (w : World) (h0 : 0 ≤ k) (h1 : k ≤ 100) (hn : bs.length + tll (trm bs) ≤ 300000000) (hown : OwnBB w B U p n c bs) :
    Calls Try.prog 19 #[.slice p n c, .int .i64 k] w fun e w' => e = .returned (.int .i64 (endBd k bs)) ∧ OwnBB w' B U p n c (markB k bs) ∧ Keep B U w w' := by
  obtain ⟨ds, hss⟩ := hown
  have HNL : Hid (n = bs.length) := hss.len
  have hnn : n ≤ 300000000 := by have := hss.len; omega
  have HO : Hid (OwnBd w B U p n c bs ds) := hss
  clear hss
  go_enter Try.func19, Try.ntmps19
  go_wp2_with fail
  go_loopw [1, 5] (fun q i wr => ∃ (j : Nat) (kj : Int), j ≤ n ∧ 0 ≤ kj ∧ kj ≤ 1000000000 ∧ i = .int .i64 j ∧ q = .int .i64 kj ∧ Hid (kj = kB k bs j) ∧ Hid (OwnBd wr B U p n c (mixB k bs j) ds) ∧ Hid (Keep B U w wr)) (fun _ i _ => n - (intOf i).toNat)
  case atStart => exact ⟨0, k, Nat.zero_le _, h0, by omega, rfl, rfl, by cases bs <;> rfl, by rw [mixB_zero]; exact HO, Keep.refl _ _ _⟩
  case round =>
    obtain ⟨j, kj, hj, hk0, hk1, rfl, rfl, HK, HR, HG⟩ := hrel
    by_cases hlt : j < n
    · have hjl : j < bs.length := by rw [← HNL.out]; exact hlt
      have hjm : j < (mixB k bs j).length := by rw [mixB_len]; exact hjl
      obtain ⟨g, cap, hv, hbg, hgs⟩ := HR.out.row.form (by omega)
      simp only [Value.slice.injEq, true_and] at hv
      obtain ⟨rfl, rfl⟩ := hv
      have dv := (HR.out.row.cellAt (j * 2) (by omega)).trans (pairRow_at0 _ _ _ j hjm)
      have d0 := (HR.out.row.cellAt (j * 2 + 1) (by omega)).trans (pairRow_at1 _ _ _ j hjm)
      have fz := HR.out.row.frozenAt (j * 2)
      have hst := (HR.out.row.stored (j * 2) (.int .i64 kj)).1
      have hit := HR.out.item j hjm
      have hmj : (mixB k bs j).getD j Bnd.zero = bs.getD j Bnd.zero := by rw [mixB_at _ _ _ _ hjl, if_neg (Nat.lt_irrefl j)]
      rw [hmj] at dv d0 hit
      have ht := tll_at (trm bs) j (by rw [trm_len]; exact hjl)
      rw [trm_at] at ht
      have HAW : Hid (g < (ds.getD j It.zero).2.2.1 ∨ (ds.getD j It.zero).2.2.2 ≤ g) := HR.out.away j hjm g rfl
      have hit2 : OwnCU (wr.setCell ⟨g, j * 2, none⟩ (.int .i64 kj)) _ _ _ _ _ _ := hit.other (by simp) (fun b h1 h2 h3 => Below.heap_setCell _ _ _ _ (show b ≠ g by have := HAW.out; omega))
      have HMK := markCellsL _ _ _ _ _ (kj + 1) (bs.getD j Bnd.zero).2 (wr.setCell ⟨g, j * 2, none⟩ (.int .i64 kj)) (by omega) (by omega) (by omega) hit2
      have HBD : Hid (kB k bs (j + 1) = endC (kj + 1) (bs.getD j Bnd.zero).2 ∧ 0 ≤ kB k bs (j + 1) ∧ kB k bs (j + 1) ≤ 1000000000) := ⟨by rw [kB_succ _ _ _ hjl, ← HK.out], by have := kB_bound bs (j + 1) k; omega, by have := kB_bound bs (j + 1) k; omega⟩
      have HLOW : Hid _ := HR.out.low j hjm
      obtain ⟨l, el⟩ : ∃ l, l = (bs.getD j Bnd.zero).2.length := ⟨_, rfl⟩
      obtain ⟨vv, evv⟩ : ∃ l, l = (bs.getD j Bnd.zero).1 := ⟨_, rfl⟩
      obtain ⟨ek, eek⟩ : ∃ ek, ek = endC (kj + 1) (bs.getD j Bnd.zero).2 := ⟨_, rfl⟩
      have HEL : Hid (l = (bs.getD j Bnd.zero).2.length) := el
      rw [← eek] at HMK HBD
      rw [← el] at d0 HMK
      rw [← evv] at dv
      obtain ⟨ip, eip⟩ : ∃ x, x = (ds.getD j It.zero).1 := ⟨_, rfl⟩
      obtain ⟨ic, eic⟩ : ∃ x, x = (ds.getD j It.zero).2.1 := ⟨_, rfl⟩
      have HIP : Hid (ip = (ds.getD j It.zero).1 ∧ ic = (ds.getD j It.zero).2.1) := ⟨eip, eic⟩
      rw [← eip, ← eic] at d0 HMK
      have d0' : (wr.setCell ⟨g, j * 2, none⟩ (.int .i64 kj)).cell? ⟨g, j * 2 + 1, none⟩ = some (.slice ip l ic) := (World.cell?_setCell_other _ _ _ _ (by simp)).trans d0
      have HST : Hid _ := hst
      have HGB : Hid (B ≤ g ∧ g < U) := ⟨hbg, HR.out.top g rfl⟩
      clear hit hit2 hmj ht el eek eip eic hst evv
      go_wp2_with fail
      refine HMK.mono ?_
      rintro e w3 ⟨rfl, ho3, hkp⟩
      have HO3 : Hid (OwnBd w3 B U (some ⟨g, 0, none⟩) n c (mixB k bs (j + 1)) ds) := by
        have hr := HR.out
        have hlow := HLOW.out
        have haw := HAW.out
        refine ⟨by rw [mixB_len]; exact HNL.out, by rw [mixB_len, ← mixB_len k bs j]; exact hr.dlen, ?_, fun i hi => ?_, fun i hi => hr.low i (by rw [mixB_len] at hi ⊢; exact hi), fun i hi => hr.away i (by rw [mixB_len] at hi ⊢; exact hi), fun i i' h1 h2 => hr.apart i i' h1 (by rw [mixB_len] at h2 ⊢; exact h2), hr.top⟩
        · have hrow := HST.out
          have hv : (valsB ds (mixB k bs j)).set (j * 2) (.int .i64 kj) = valsB ds (mixB k bs (j + 1)) := by
            have hs := pairRow_set0 (f := fun i => .int .i64 ((mixB k bs j).getD i Bnd.zero).1) (g := fun i => .slice (ds.getD i It.zero).1 ((mixB k bs j).getD i Bnd.zero).2.length (ds.getD i It.zero).2.1) (f' := fun i => .int .i64 ((mixB k bs (j + 1)).getD i Bnd.zero).1) (n := bs.length) hjl (fun i hi hne => by
              rw [mixB_at _ _ _ _ hi, mixB_at _ _ _ _ hi]
              by_cases h2 : i < j
              · rw [if_pos h2, if_pos (by omega)]
              · rw [if_neg h2, if_neg (by omega)])
            have hkj : ((mixB k bs (j + 1)).getD j Bnd.zero).1 = kj := by rw [mixB_at _ _ _ _ hjl, if_pos (by omega), HK.out]
            rw [hkj] at hs
            unfold valsB
            rw [mixB_len, mixB_len, hs]
            exact pairRow_congr fun i hi => ⟨rfl, by rw [mixB_itemlen _ _ _ _ hi, mixB_itemlen _ _ _ _ hi]⟩
          rw [hv] at hrow
          refine ⟨hrow.1, ?_⟩
          rcases hrow.2 with h' | ⟨g', cap, cur, hv, hB, hg, r⟩
          · exact .inl h'
          · have e : g = g' := by simp only [Value.slice.injEq] at hv; exact congrArg Addr.block (Option.some.inj hv.1)
            exact .inr ⟨g', cap, cur, hv, hB, (hkp.block g' (Array.getElem?_eq_some_iff.1 hg).1 (by omega)).trans hg, r⟩
        · have hi' : i < bs.length := by rw [mixB_len] at hi; exact hi
          have him : i < (mixB k bs j).length := by rw [mixB_len]; exact hi'
          rw [mixB_itemlen _ _ _ _ hi', mixB_at _ _ _ _ hi']
          by_cases e : i = j
          · subst e
            rw [if_pos (by omega), ← HK.out, ← HEL.out, ← HIP.out.1, ← HIP.out.2]
            exact ho3
          · have old := hr.item i him
            rw [mixB_itemlen _ _ _ _ hi', mixB_at _ _ _ _ hi'] at old
            have hne : ∀ b, (ds.getD i It.zero).2.2.1 ≤ b → b < (ds.getD i It.zero).2.2.2 → b ≠ g := fun b h1 h2 => by have := hr.away i him g rfl; omega
            have old2 : OwnCU (wr.setCell ⟨g, j * 2, none⟩ (.int .i64 kj)) _ _ _ _ _ _ := old.other (by simp) (fun b _ h2 h3 => Below.heap_setCell _ _ _ _ (hne b h2 h3))
            have hap : (ds.getD i It.zero).2.2.2 ≤ (ds.getD j It.zero).2.2.1 ∨ (ds.getD j It.zero).2.2.2 ≤ (ds.getD i It.zero).2.2.1 := by
              rcases Nat.lt_or_ge i j with h | h
              · exact .inl (hr.apart i j h hjm)
              · exact .inr (hr.apart j i (by omega) him)
            have := old2.keep hkp hap
            by_cases h2 : i < j
            · rw [if_pos h2] at this
              rw [if_pos (by omega)]
              exact this
            · rw [if_neg h2] at this
              rw [if_neg (by omega)]
              exact this
      have HK3 : Hid (Keep B U w w3) := HG.out.trans (Keep.trans (⟨rfl, rfl, rfl, by simp, fun b hb hp => Below.heap_setCell _ _ _ _ (show b ≠ g by have := HGB.out; omega)⟩ : Keep B U wr (wr.setCell ⟨g, j * 2, none⟩ (.int .i64 kj))) ⟨hkp.os, hkp.tape, hkp.output, hkp.size, fun b hb hp => hkp.block b hb (by have := HLOW.out; omega)⟩)
      clear ho3 hkp HMK
      go_wp2_with fail
      go_roundw
      case rel => exact ⟨j + 1, ek, by omega, by have := HBD.out; omega, by have := HBD.out; omega, by go_num, rfl, HBD.out.1.symm, HO3, HK3⟩
      case measure => simp [intOf]; omega
    · obtain rfl : j = n := by omega
      have HE : Hid (kj = endBd k bs) := by show _ = _; rw [HK.out, endBd, HNL.out]
      have HF : Hid (OwnBB wr B U p j c (markB k bs)) := ⟨ds, by have := HR.out; rw [markB, ← HNL.out]; exact this⟩
      go_wp2_with fail
      go_ret
      exact ⟨ret_int HE.out, HF.out, HG.out⟩

set_option maxRecDepth 100000 in
theorem heldBdL (p : Option Addr) (n c : Nat) (k : Int) (bs : List Bnd) (w : World) (h0 : 0 ≤ k) (h1 : k ≤ 100) (hn : bs.length + tll (trm bs) ≤ 300000000) (hl : n = bs.length) (hin : BdIn w p (markB k bs)) :
    Calls Try.prog 24 #[.slice p n c, .int .i64 k] w fun e w' => e = .returned (.int .i64 (endBd k bs)) ∧ w' = w := by
  have HI : Hid (BdIn w p (markB k bs)) := hin
  have HN : Hid (n = bs.length) := hl
  have hnn : n ≤ 300000000 := by omega
  clear hin hl
  go_enter Try.func24, Try.ntmps24
  go_wp2_with fail
  go_loop [1, 5] (fun q i => ∃ (j : Nat) (kj : Int), j ≤ n ∧ 0 ≤ kj ∧ kj ≤ 1000000000 ∧ i = .int .i64 j ∧ q = .int .i64 kj ∧ Hid (kj = kB k bs j)) (fun _ i => n - (intOf i).toNat)
  case atStart => exact ⟨0, k, Nat.zero_le _, h0, by omega, rfl, rfl, by cases bs <;> rfl⟩
  case round =>
    obtain ⟨j, kj, hj, hk0, hk1, rfl, rfl, HK⟩ := hrel
    by_cases hlt : j < n
    · have hjl : j < bs.length := by rw [← HN.out]; exact hlt
      obtain ⟨b, o, rfl, hcs⟩ := HI.out (by rw [markB, mixB_len]; omega)
      obtain ⟨q, qc, dv, d0, d1⟩ := hcs j (by rw [markB, mixB_len]; exact hjl)
      simp only [markB] at dv d0 d1
      rw [mixB_itemlen _ _ _ _ hjl] at d0
      rw [mixB_at _ _ _ _ hjl, if_pos hjl] at dv d1
      rw [← HK.out] at dv d1
      have ht := tll_at (trm bs) j (by rw [trm_len]; exact hjl)
      rw [trm_at] at ht
      have HH := heldCellsL q (bs.getD j Bnd.zero).2.length qc (kj + 1) (bs.getD j Bnd.zero).2 w (by omega) (by omega) (by omega) rfl d1
      have HBD : Hid (kB k bs (j + 1) = endC (kj + 1) (bs.getD j Bnd.zero).2 ∧ 0 ≤ kB k bs (j + 1) ∧ kB k bs (j + 1) ≤ 1000000000) := ⟨by rw [kB_succ _ _ _ hjl, ← HK.out], by have := kB_bound bs (j + 1) k; omega, by have := kB_bound bs (j + 1) k; omega⟩
      obtain ⟨l, el⟩ : ∃ l, l = (bs.getD j Bnd.zero).2.length := ⟨_, rfl⟩
      obtain ⟨ek, eek⟩ : ∃ ek, ek = endC (kj + 1) (bs.getD j Bnd.zero).2 := ⟨_, rfl⟩
      rw [← eek] at HH HBD
      rw [← el] at HH d0
      have hek : ¬ ek < 0 := by have := HBD.out; omega
      clear hcs d1 ht el eek
      go_wp2_with fail
      refine HH.mono ?_
      rintro e w3 ⟨rfl, rfl⟩
      go_wp2_with fail
      go_round
      case rel => exact ⟨j + 1, ek, by omega, by have := HBD.out; omega, by have := HBD.out; omega, by go_num, rfl, HBD.out.1.symm⟩
      case measure => simp [intOf]; omega
    · obtain rfl : j = n := by omega
      have HE : Hid (kj = endBd k bs) := by show _ = _; rw [HK.out, endBd, HN.out]
      go_wp2_with fail
      go_ret
      exact ⟨ret_int HE.out, rfl⟩


end Go.Proofs.Ytedlcmkhbccjgaa

namespace Go.Proofs.Ytedlcmkhbccjgaa
open Go Go.RowKit
set_option linter.unusedVariables false

theorem run_wfU : ∀ (k : Nat) (M : BM) (st : List TT), WfU M → (∀ p ∈ st, p.1.fo.ok ∧ p.2.fo.ok) → ∀ M' n, runU 4 5 3 k M st = .ok (M', n) → WfU M'
  | k, M, [], h, _, M', n, e => by rw [runU_nil] at e; cases e; exact h
  | 0, M, p :: ps, h, _, M', n, e => by cases e
  | k + 1, M, p :: ps, hw, ho, M', n, e => by
    rw [runU] at e
    have hp := ho p (by simp)
    have oX := hw.end_ok hp.1 (hw.endB p.1)
    have oY := hw.end_ok hp.2 (hw.endB p.2)
    cases hs : stepE 4 5 M (endB M p.1) (endB M p.2) with
    | error c => rw [hs] at e; cases e
    | ok r =>
      obtain ⟨M1, qs⟩ := r
      rw [hs] at e
      simp only at e
      obtain ⟨w1, w2⟩ := hw.step (hw.endB p.1).last (hw.endB p.2).last oX oY hs
      exact run_wfU k M1 (qs ++ ps) w1 (fun q hq => by
        rcases List.mem_append.1 hq with hq | hq
        · exact w2 q hq
        · exact ho q (by simp [hq])) M' n e
theorem tl_le6 : ∀ cs : List Cel, (∀ c ∈ cs, c.2.2.length ≤ 100) → tl cs ≤ 100 * cs.length
  | [], _ => by simp [tl]
  | a :: r, h => by
    have h1 := tl_le6 r (fun c hc => h c (by simp [hc]))
    have h2 := h a (by simp)
    simp only [tl, List.length_cons]
    omega
theorem tll_le6 : ∀ css : List (List Cel), (∀ cs ∈ css, cs.length ≤ 2000 ∧ ∀ c ∈ cs, c.2.2.length ≤ 100) → tll css ≤ 202000 * css.length
  | [], _ => by simp [tll]
  | a :: r, h => by
    have h1 := tll_le6 r (fun c hc => h c (by simp [hc]))
    have h2 := h a (by simp)
    have h3 := tl_le6 a h2.2
    simp only [tll, List.length_cons]
    omega
theorem UniT.size {x y : Tr} (hx : x.fo.ok) (hy : y.fo.ok) {bs : List Bnd} {c : Int} (h : UniT x y bs c) : bs.length + tll (trm bs) ≤ 203000000 ∧ 0 ≤ c ∧ c ≤ 5 := by
  unfold UniT at h
  cases hr : runU 4 5 3 20000 (fun _ => none) [(x, y)] with
  | error d =>
    rw [hr] at h
    obtain ⟨rfl, rfl, h1, h2⟩ := h
    exact ⟨by simp [trm, tll], by omega, by omega⟩
  | ok r =>
    obtain ⟨M, n⟩ := r
    rw [hr] at h
    have hw := run_wfU 20000 _ _ WfU.zero (fun p hp => by rw [List.mem_singleton.1 hp]; exact ⟨hx, hy⟩) M n hr
    obtain ⟨ks, ha, hb⟩ := h
    by_cases hl : ks.length ≤ 1000 ∧ ∀ v ∈ ks, (bndU M v).2.length ≤ 2000
    · have e : bindR M ks = some (bndsU M ks) := by unfold bindR; rw [if_pos hl]
      rw [e] at hb
      obtain ⟨rfl, rfl⟩ := hb
      refine ⟨?_, by decide, by decide⟩
      have h1 := tll_le6 (trm (bndsU M ks)) (fun cs hcs => by
        obtain ⟨b, hb, rfl⟩ := List.mem_map.1 hcs
        obtain ⟨v, hv, rfl⟩ := List.mem_map.1 hb
        refine ⟨hl.2 v hv, fun c hc => ?_⟩
        obtain ⟨u, hu⟩ := Option.isSome_iff_exists.1 ((ha.2 v).1 hv)
        simp only [bndU, hu] at hc
        obtain ⟨g, hg⟩ := hw.full u (hw.ok _ _ hu)
        rw [fullC_eq hg] at hc
        exact fo_textU g.fo (hg.okF hw.ok (hw.ok _ _ hu)) c hc)
      have h2 : (bndsU M ks).length = ks.length := by simp [bndsU]
      rw [trm_len, h2] at h1
      rw [h2]
      omega
    · have e : bindR M ks = none := by unfold bindR; rw [if_neg hl]
      rw [e] at hb
      obtain ⟨rfl, rfl⟩ := hb
      exact ⟨by simp [trm, tll], by decide, by decide⟩
theorem UniIs.size {xs ys : List Cel} {bs : List Bnd} {c : Int} (h : UniIs xs ys bs c) : bs.length + tll (trm bs) ≤ 203000000 ∧ 0 ≤ c ∧ c ≤ 5 := by
  rcases h with ⟨_, _, a, k, a', k', _, _, h1, h2, h3⟩ | ⟨_, rfl, rfl⟩
  · exact UniT.size (x := (a, k)) (y := (a', k')) h1 h2 h3
  · exact ⟨by simp [trm, tll], by decide, by decide⟩
theorem UniIs.det {xs ys : List Cel} {bs bs' : List Bnd} {c c' : Int} (h : UniIs xs ys bs c) (h' : UniIs xs ys bs' c') : bs' = bs ∧ c' = c := by
  rcases h with ⟨v1, v2, a, k, b, m, ex, ey, h1, h2, h3⟩ | ⟨hn, rfl, rfl⟩
  · rcases h' with ⟨_, _, a', k', b', m', ex', ey', h1', h2', h3'⟩ | ⟨hn, _, _⟩
    · have e1 : Fo.node a k .nil = Fo.node a' k' .nil := (Fo.cells_inj _ _ [] [] h1 h1' rfl (by simp only [Fo.cells, List.append_nil]; rw [← ex, ← ex'])).1
      have e2 : Fo.node b m .nil = Fo.node b' m' .nil := (Fo.cells_inj _ _ [] [] h2 h2' rfl (by simp only [Fo.cells, List.append_nil]; rw [← ey, ← ey'])).1
      cases e1
      cases e2
      obtain ⟨g1, g2⟩ := h3.det h3'
      exact ⟨g1.symm, g2.symm⟩
    · exact absurd ⟨v1, v2⟩ hn
  · rcases h' with ⟨v1, v2, _⟩ | ⟨_, rfl, rfl⟩
    · exact absurd ⟨v1, v2⟩ hn
    · exact ⟨rfl, rfl⟩

set_option maxRecDepth 100000 in
set_option maxHeartbeats 1000000 in
theorem lawUni_any (p q : Option Addr) (cap cap' : Nat) (xs ys : List Cel) (w : World) (hin : CArg w p xs) (hin' : CArg w q ys) :
    Calls Try.prog 6 #[.slice p xs.length cap, .slice q ys.length cap'] w fun e w' => e = .returned (.bool true) ∧ Below w.heap.size w w' := by
  have HI : Hid (CArg w p xs) := hin
  have HJ : Hid (CArg w q ys) := hin'
  have HS := szCellS_any p cap xs 1048576 w (Nat.le_refl _) hin.len hin.text hin.lies
  have HBX : Hid (∀ i, i < xs.length → Byte (xs.getD i Cel.none).2.2) := hin.byte
  have HBY : Hid (∀ i, i < ys.length → Byte (ys.getD i Cel.none).2.2) := hin'.byte
  have hlen1 := hin.len
  have hlen2 := hin'.len
  clear hin hin'
  by_cases hn : xs.length + tl xs ≤ 1048576
  · obtain ⟨r, er, hr⟩ : ∃ r : Nat, szR 1048576 (xs.length + tl xs) = r ∧ r ≤ 1048576 := ⟨1048576 - (xs.length + tl xs), by rw [szR, if_pos hn]; omega, by omega⟩
    rw [er] at HS
    clear er
    have HS2 : Hid (∀ W, Below w.heap.size w W → Calls Try.prog 7 #[.slice q ys.length cap', .int .i64 r] W fun e w' => e = .returned (.int .i64 (szR r (ys.length + tl ys))) ∧ Below W.heap.size W w') := fun W hW => szCellS_any q cap' ys r W hr HJ.out.len HJ.out.text (HJ.out.below hW).lies
    by_cases hm0 : ys.length + tl ys ≤ r
    · obtain ⟨r2, er2⟩ : ∃ r2 : Nat, szR r (ys.length + tl ys) = r2 := ⟨r - (ys.length + tl ys), by rw [szR, if_pos hm0]; omega⟩
      rw [er2] at HS2
      clear er2
      have hm : ys.length + tl ys ≤ 1048576 := by omega
      have HSP : Hid (∀ (p q : Option Addr) (w : World), CIn w p xs → CIn w q ys → Calls Try.prog 22 #[.slice p xs.length xs.length, .slice q ys.length ys.length] w (UniO w xs ys)) := fun p q w h h' => specUni_any xs ys p q w HBX.out HBY.out (by omega) (by omega) h h'
      have HIMU : Hid (∀ bs code, UniIs xs ys bs code → ∀ (p q : Option Addr) (w : World), CIn w p xs → CIn w q ys → Calls Try.prog 23 #[.slice p xs.length xs.length, .slice q ys.length ys.length] w fun e w' => ∃ q m c2, e = .returned (.tuple #[.slice q m c2, .int .i64 code]) ∧ OwnBB w' w.heap.size w'.heap.size q m c2 bs ∧ Below w.heap.size w w') := fun bs code hu p q w h h' => (implUni_any xs ys p q w HBX.out HBY.out (by omega) (by omega) h h').mono fun e w' ⟨bs', code', q, m, c2, hu', he, ho, hb⟩ => by
        obtain ⟨rfl, rfl⟩ := hu.det hu'
        exact ⟨q, m, c2, he, ho, hb⟩
      clear HBX HBY hm0 hr hlen1 hlen2
      go_enter Try.func6, Try.ntmps6
      go_wp2_with fail
      refine (HS).mono ?_
      rintro e w0 ⟨rfl, hb⟩
      have HA0 : Hid (Below w.heap.size w w0) := hb
      clear hb HS
      go_wp2_with fail
      refine (HS2.out w0 HA0.out).mono ?_
      rintro e w1 ⟨rfl, hb⟩
      have HA1 : Hid (Below w.heap.size w w1) := Below.on HA0.out hb
      clear hb HA0
      go_wp2_with fail
      refine (toCellS_any p cap xs w1 hn (HI.out.below HA1.out).lies).mono ?_
      rintro e w2 ⟨rfl, ho, hb⟩
      have HA2 : Hid (Below w.heap.size w w2) := Below.on HA1.out hb
      have HP2 : Hid (CIn w2 (some ⟨w1.heap.size, 0, none⟩) xs) := ho.cin
      clear ho hb
      go_wp2_with fail
      refine (toCellS_any q cap' ys w2 hm (HJ.out.below HA2.out).lies).mono ?_
      rintro e w3 ⟨rfl, ho, hb⟩
      have HA3 : Hid (Below w.heap.size w w3) := Below.on HA2.out hb
      have HP3 : Hid (CIn w3 (some ⟨w1.heap.size, 0, none⟩) xs) := HP2.out.below hb
      have HQ3 : Hid (CIn w3 (some ⟨w2.heap.size, 0, none⟩) ys) := ho.cin
      clear ho hb
      go_wp2_with fail
      refine (HSP.out _ _ w3 HP3.out HQ3.out).mono ?_
      rintro e w4 ⟨zs, code, p4, n4, c4, hu, rfl, ho, hb⟩
      have HA4 : Hid (Below w.heap.size w w4) := Below.on HA3.out hb
      have HB4 : Hid (Below w4.heap.size w4 w4) := Below.refl _ _
      have HZ4 : Hid (BdIn w4 p4 zs ∧ n4 = zs.length) := ⟨ho.bdin, by obtain ⟨ds, hd⟩ := ho; exact hd.len⟩
      have HIM : Hid _ := HIMU.out zs code hu
      have HZL : Hid (zs.length + tll (trm zs) ≤ 203000000) := hu.size.1
      have hco : 0 ≤ code ∧ code ≤ 5 := hu.size.2
      clear ho hb hu HP3 HQ3 HIMU
      go_wp2_with fail
      refine (toCellS_any p cap xs w4 hn (HI.out.below HA4.out).lies).mono ?_
      rintro e w5 ⟨rfl, ho, hb⟩
      have HA5 : Hid (Below w.heap.size w w5) := Below.on HA4.out hb
      have HB5 : Hid (Below w4.heap.size w4 w5) := Below.on HB4.out hb
      have HX5 : Hid (OwnCU w5 w4.heap.size w5.heap.size (some ⟨w4.heap.size, 0, none⟩) xs.length xs.length xs) := ho.up
      have HS5 : Hid (w5.heap.size ≤ w5.heap.size) := Nat.le_refl _
      clear ho hb
      go_wp2_with fail
      refine (toCellS_any q cap' ys w5 hm (HJ.out.below HA5.out).lies).mono ?_
      rintro e w6 ⟨rfl, ho, hb⟩
      have HA6 : Hid (Below w.heap.size w w6) := Below.on HA5.out hb
      have HB6 : Hid (Below w4.heap.size w4 w6) := Below.on HB5.out hb
      have HX6 : Hid (OwnCU w6 w4.heap.size w5.heap.size (some ⟨w4.heap.size, 0, none⟩) xs.length xs.length xs) := HX5.out.below hb
      have HS6 : Hid (w5.heap.size ≤ w6.heap.size) := Nat.le_trans HS5.out hb.size
      have HY6 : Hid (OwnCU w6 w5.heap.size w6.heap.size (some ⟨w5.heap.size, 0, none⟩) ys.length ys.length ys) := ho.up
      have HR6 : Hid (w6.heap.size ≤ w6.heap.size) := Nat.le_refl _
      clear ho hb
      go_wp2_with fail
      refine (HIM.out _ _ w6 HX6.out.toC.cin HY6.out.toC.cin).mono ?_
      rintro e w7 ⟨p7, n7, c7, rfl, ho, hb⟩
      have HA7 : Hid (Below w.heap.size w w7) := Below.on HA6.out hb
      have HB7 : Hid (Below w4.heap.size w4 w7) := Below.on HB6.out hb
      have HX7 : Hid (OwnCU w7 w4.heap.size w5.heap.size (some ⟨w4.heap.size, 0, none⟩) xs.length xs.length xs) := HX6.out.below hb
      have HS7 : Hid (w5.heap.size ≤ w7.heap.size) := Nat.le_trans HS6.out hb.size
      have HY7 : Hid (OwnCU w7 w5.heap.size w6.heap.size (some ⟨w5.heap.size, 0, none⟩) ys.length ys.length ys) := HY6.out.below hb
      have HR7 : Hid (w6.heap.size ≤ w7.heap.size) := Nat.le_trans HR6.out hb.size
      have HG7 : Hid (OwnBB w7 w6.heap.size w7.heap.size p7 n7 c7 zs) := ho
      have HN7 : Hid (n7 = zs.length) := by obtain ⟨ds, hd⟩ := ho; exact hd.len
      clear ho hb
      go_wp2_with fail
      refine (eqBdL p7 p4 n7 n4 c7 c4 zs w7 HN7.out HZ4.out.2 (by have := HZL.out; omega) HG7.out.bdin (HZ4.out.1.below HB7.out)).mono ?_
      rintro e w8 ⟨rfl, hb⟩
      have HA8 : Hid (Below w.heap.size w w8) := Below.on HA7.out hb
      have HB8 : Hid (Below w4.heap.size w4 w8) := Below.on HB7.out hb
      have HX8 : Hid (OwnCU w8 w4.heap.size w5.heap.size (some ⟨w4.heap.size, 0, none⟩) xs.length xs.length xs) := HX7.out.below hb
      have HS8 : Hid (w5.heap.size ≤ w8.heap.size) := Nat.le_trans HS7.out hb.size
      have HY8 : Hid (OwnCU w8 w5.heap.size w6.heap.size (some ⟨w5.heap.size, 0, none⟩) ys.length ys.length ys) := HY7.out.below hb
      have HR8 : Hid (w6.heap.size ≤ w8.heap.size) := Nat.le_trans HR7.out hb.size
      have HG8 : Hid (OwnBB w8 w6.heap.size w7.heap.size p7 n7 c7 zs) := HG7.out.below hb
      clear hb
      go_wp2_with fail
      refine (toCellS_any p cap xs w8 hn (HI.out.below HA8.out).lies).mono ?_
      rintro e w9 ⟨rfl, ho, hb⟩
      have HA9 : Hid (Below w.heap.size w w9) := Below.on HA8.out hb
      have HB9 : Hid (Below w4.heap.size w4 w9) := Below.on HB8.out hb
      have HX9 : Hid (OwnCU w9 w4.heap.size w5.heap.size (some ⟨w4.heap.size, 0, none⟩) xs.length xs.length xs) := HX8.out.below hb
      have HS9 : Hid (w5.heap.size ≤ w9.heap.size) := Nat.le_trans HS8.out hb.size
      have HY9 : Hid (OwnCU w9 w5.heap.size w6.heap.size (some ⟨w5.heap.size, 0, none⟩) ys.length ys.length ys) := HY8.out.below hb
      have HR9 : Hid (w6.heap.size ≤ w9.heap.size) := Nat.le_trans HR8.out hb.size
      have HG9 : Hid (OwnBB w9 w6.heap.size w7.heap.size p7 n7 c7 zs) := HG8.out.below hb
      have HP9 : Hid (CIn w9 (some ⟨w8.heap.size, 0, none⟩) xs) := ho.cin
      clear ho hb
      go_wp2_with fail
      refine (eqCellS_any _ _ _ _ xs xs w9 (by omega) (by omega) HX9.out.toC.cin HP9.out).mono ?_
      rintro e w10 ⟨rfl, hb⟩
      have HA10 : Hid (Below w.heap.size w w10) := Below.on HA9.out hb
      have HB10 : Hid (Below w4.heap.size w4 w10) := Below.on HB9.out hb
      have HX10 : Hid (OwnCU w10 w4.heap.size w5.heap.size (some ⟨w4.heap.size, 0, none⟩) xs.length xs.length xs) := HX9.out.below hb
      have HS10 : Hid (w5.heap.size ≤ w10.heap.size) := Nat.le_trans HS9.out hb.size
      have HY10 : Hid (OwnCU w10 w5.heap.size w6.heap.size (some ⟨w5.heap.size, 0, none⟩) ys.length ys.length ys) := HY9.out.below hb
      have HR10 : Hid (w6.heap.size ≤ w10.heap.size) := Nat.le_trans HR9.out hb.size
      have HG10 : Hid (OwnBB w10 w6.heap.size w7.heap.size p7 n7 c7 zs) := HG9.out.below hb
      have ht : decide (xs = xs) = true := by simp
      rw [ht]
      clear ht hb HP9
      go_wp2_with fail
      refine (toCellS_any q cap' ys w10 hm (HJ.out.below HA10.out).lies).mono ?_
      rintro e w11 ⟨rfl, ho, hb⟩
      have HA11 : Hid (Below w.heap.size w w11) := Below.on HA10.out hb
      have HB11 : Hid (Below w4.heap.size w4 w11) := Below.on HB10.out hb
      have HX11 : Hid (OwnCU w11 w4.heap.size w5.heap.size (some ⟨w4.heap.size, 0, none⟩) xs.length xs.length xs) := HX10.out.below hb
      have HS11 : Hid (w5.heap.size ≤ w11.heap.size) := Nat.le_trans HS10.out hb.size
      have HY11 : Hid (OwnCU w11 w5.heap.size w6.heap.size (some ⟨w5.heap.size, 0, none⟩) ys.length ys.length ys) := HY10.out.below hb
      have HR11 : Hid (w6.heap.size ≤ w11.heap.size) := Nat.le_trans HR10.out hb.size
      have HG11 : Hid (OwnBB w11 w6.heap.size w7.heap.size p7 n7 c7 zs) := HG10.out.below hb
      have HQ11 : Hid (CIn w11 (some ⟨w10.heap.size, 0, none⟩) ys) := ho.cin
      clear ho hb
      go_wp2_with fail
      refine (eqCellS_any _ _ _ _ ys ys w11 (by omega) (by omega) HY11.out.toC.cin HQ11.out).mono ?_
      rintro e w12 ⟨rfl, hb⟩
      have HA12 : Hid (Below w.heap.size w w12) := Below.on HA11.out hb
      have HB12 : Hid (Below w4.heap.size w4 w12) := Below.on HB11.out hb
      have HX12 : Hid (OwnCU w12 w4.heap.size w5.heap.size (some ⟨w4.heap.size, 0, none⟩) xs.length xs.length xs) := HX11.out.below hb
      have HS12 : Hid (w5.heap.size ≤ w12.heap.size) := Nat.le_trans HS11.out hb.size
      have HY12 : Hid (OwnCU w12 w5.heap.size w6.heap.size (some ⟨w5.heap.size, 0, none⟩) ys.length ys.length ys) := HY11.out.below hb
      have HR12 : Hid (w6.heap.size ≤ w12.heap.size) := Nat.le_trans HR11.out hb.size
      have HG12 : Hid (OwnBB w12 w6.heap.size w7.heap.size p7 n7 c7 zs) := HG11.out.below hb
      have ht : decide (ys = ys) = true := by simp
      rw [ht]
      clear ht hb HQ11
      go_wp2_with fail
      refine (markCells_any w4.heap.size w5.heap.size _ _ _ 1 xs w12 (by decide) (by decide) (by omega) HX12.out).mono ?_
      rintro e w13 ⟨rfl, ho, hk⟩
      have HA13 : Hid (Below w.heap.size w w13) := HA12.out.trans (hk.below HA4.out.size HA12.out.size)
      have HB13 : Hid (Below w4.heap.size w4 w13) := HB12.out.trans (hk.below (Nat.le_refl _) HB12.out.size)
      have HS13 : Hid (w5.heap.size ≤ w13.heap.size) := Nat.le_trans HS12.out hk.size
      have HY13 : Hid (OwnCU w13 w5.heap.size w6.heap.size (some ⟨w5.heap.size, 0, none⟩) ys.length ys.length ys) := HY12.out.keep hk (.inr (Nat.le_refl _))
      have HR13 : Hid (w6.heap.size ≤ w13.heap.size) := Nat.le_trans HR12.out hk.size
      have HG13 : Hid (OwnBB w13 w6.heap.size w7.heap.size p7 n7 c7 zs) := HG12.out.keep hk (.inr HS6.out)
      obtain ⟨k1, ek1⟩ : ∃ k, k = endC 1 xs := ⟨_, rfl⟩
      have hk1 : 0 ≤ k1 ∧ k1 ≤ 10000000 := by rw [ek1, endC_eq]; omega
      rw [← ek1]
      clear ek1 ho hk HX12
      go_wp2_with fail
      refine (markCells_any w5.heap.size w6.heap.size _ _ _ k1 ys w13 hk1.1 hk1.2 (by omega) HY13.out).mono ?_
      rintro e w14 ⟨rfl, ho, hk⟩
      have HA14 : Hid (Below w.heap.size w w14) := HA13.out.trans (hk.below HA5.out.size HA13.out.size)
      have HB14 : Hid (Below w4.heap.size w4 w14) := HB13.out.trans (hk.below HB5.out.size HB13.out.size)
      have HS14 : Hid (w5.heap.size ≤ w14.heap.size) := Nat.le_trans HS13.out hk.size
      have HR14 : Hid (w6.heap.size ≤ w14.heap.size) := Nat.le_trans HR13.out hk.size
      have HG14 : Hid (OwnBB w14 w6.heap.size w7.heap.size p7 n7 c7 zs) := HG13.out.keep hk (.inr (Nat.le_refl _))
      obtain ⟨k2, ek2⟩ : ∃ k, k = endC k1 ys := ⟨_, rfl⟩
      have hk2 : ¬ k2 < 0 := by rw [ek2, endC_eq]; omega
      rw [← ek2]
      clear ek2 ho hk HY13 hk1
      go_wp2_with fail
      refine (eqBdL p7 p4 n7 n4 c7 c4 zs w14 HN7.out HZ4.out.2 (by have := HZL.out; omega) HG14.out.bdin (HZ4.out.1.below HB14.out)).mono ?_
      rintro e w15 ⟨rfl, hb⟩
      have HA15 : Hid (Below w.heap.size w w15) := Below.on HA14.out hb
      have HB15 : Hid (Below w4.heap.size w4 w15) := Below.on HB14.out hb
      have HS15 : Hid (w5.heap.size ≤ w15.heap.size) := Nat.le_trans HS14.out hb.size
      have HR15 : Hid (w6.heap.size ≤ w15.heap.size) := Nat.le_trans HR14.out hb.size
      have HG15 : Hid (OwnBB w15 w6.heap.size w7.heap.size p7 n7 c7 zs) := HG14.out.below hb
      clear hb
      go_wp2_with fail
      refine (markBdL w6.heap.size w7.heap.size p7 n7 c7 1 zs w15 (by decide) (by decide) (by have := HZL.out; omega) HG15.out).mono ?_
      rintro e w16 ⟨rfl, ho, hk⟩
      have HA16 : Hid (Below w.heap.size w w16) := HA15.out.trans (hk.below HA6.out.size HA15.out.size)
      have HB16 : Hid (Below w4.heap.size w4 w16) := HB15.out.trans (hk.below HB6.out.size HB15.out.size)
      have HS16 : Hid (w5.heap.size ≤ w16.heap.size) := Nat.le_trans HS15.out hk.size
      have HR16 : Hid (w6.heap.size ≤ w16.heap.size) := Nat.le_trans HR15.out hk.size
      have HH16 : Hid (BdIn w16 p7 (markB 1 zs)) := ho.bdin
      obtain ⟨mm, emm⟩ : ∃ mm, mm = endBd 1 zs := ⟨_, rfl⟩
      have hmm : ¬ mm < 0 := by rw [emm]; have := kB_bound zs zs.length 1; simp only [endBd]; omega
      have HMM : Hid (mm = endBd 1 zs) := emm
      rw [← emm]
      clear emm ho hk HG15
      go_wp2_with fail
      refine (heldBdL p7 n7 c7 1 zs w16 (by decide) (by decide) (by have := HZL.out; omega) HN7.out HH16.out).mono ?_
      rintro e wh ⟨rfl, hwh⟩
      rw [hwh, ← HMM.out]
      clear hwh
      go_wp2_with fail
      refine (toCellS_any p cap xs w16 hn (HI.out.below HA16.out).lies).mono ?_
      rintro e w17 ⟨rfl, ho, hb⟩
      have HA17 : Hid (Below w.heap.size w w17) := Below.on HA16.out hb
      have HB17 : Hid (Below w4.heap.size w4 w17) := Below.on HB16.out hb
      have HS17 : Hid (w5.heap.size ≤ w17.heap.size) := Nat.le_trans HS16.out hb.size
      have HR17 : Hid (w6.heap.size ≤ w17.heap.size) := Nat.le_trans HR16.out hb.size
      have HH17 : Hid (BdIn w17 p7 (markB 1 zs)) := HH16.out.below hb
      have HP17 : Hid (CIn w17 (some ⟨w16.heap.size, 0, none⟩) xs) := ho.cin
      clear ho hb
      go_wp2_with fail
      refine (toCellS_any q cap' ys w17 hm (HJ.out.below HA17.out).lies).mono ?_
      rintro e w18 ⟨rfl, ho, hb⟩
      have HA18 : Hid (Below w.heap.size w w18) := Below.on HA17.out hb
      have HB18 : Hid (Below w4.heap.size w4 w18) := Below.on HB17.out hb
      have HS18 : Hid (w5.heap.size ≤ w18.heap.size) := Nat.le_trans HS17.out hb.size
      have HR18 : Hid (w6.heap.size ≤ w18.heap.size) := Nat.le_trans HR17.out hb.size
      have HH18 : Hid (BdIn w18 p7 (markB 1 zs)) := HH17.out.below hb
      have HP18 : Hid (CIn w18 (some ⟨w16.heap.size, 0, none⟩) xs) := HP17.out.below hb
      have HQ18 : Hid (CIn w18 (some ⟨w17.heap.size, 0, none⟩) ys) := ho.cin
      clear ho hb
      go_wp2_with fail
      refine (HIM.out _ _ w18 HP18.out HQ18.out).mono ?_
      rintro e w19 ⟨p19, n19, c19, rfl, ho, hb⟩
      have HA19 : Hid (Below w.heap.size w w19) := Below.on HA18.out hb
      have HB19 : Hid (Below w4.heap.size w4 w19) := Below.on HB18.out hb
      have HS19 : Hid (w5.heap.size ≤ w19.heap.size) := Nat.le_trans HS18.out hb.size
      have HR19 : Hid (w6.heap.size ≤ w19.heap.size) := Nat.le_trans HR18.out hb.size
      have HH19 : Hid (BdIn w19 p7 (markB 1 zs)) := HH18.out.below hb
      have HG19 : Hid (BdIn w19 p19 zs ∧ n19 = zs.length) := ⟨ho.bdin, by obtain ⟨ds, hd⟩ := ho; exact hd.len⟩
      clear ho hb HP18 HQ18
      go_wp2_with fail
      refine (eqBdL p19 p4 n19 n4 c19 c4 zs w19 HG19.out.2 HZ4.out.2 (by have := HZL.out; omega) HG19.out.1 (HZ4.out.1.below HB19.out)).mono ?_
      rintro e w20 ⟨rfl, hb⟩
      have HA20 : Hid (Below w.heap.size w w20) := Below.on HA19.out hb
      have HB20 : Hid (Below w4.heap.size w4 w20) := Below.on HB19.out hb
      have HS20 : Hid (w5.heap.size ≤ w20.heap.size) := Nat.le_trans HS19.out hb.size
      have HR20 : Hid (w6.heap.size ≤ w20.heap.size) := Nat.le_trans HR19.out hb.size
      have HH20 : Hid (BdIn w20 p7 (markB 1 zs)) := HH19.out.below hb
      clear hb
      go_wp2_with fail
      refine (heldBdL p7 n7 c7 1 zs w20 (by decide) (by decide) (by have := HZL.out; omega) HN7.out HH20.out).mono ?_
      rintro e wh ⟨rfl, hwh⟩
      rw [hwh, ← HMM.out]
      clear hwh
      go_wp2_with fail
      go_ret
      exact ⟨rfl, HA20.out⟩
    · have er2 : szR r (ys.length + tl ys) = -1 := by rw [szR, if_neg hm0]
      rw [er2] at HS2
      clear er2 HBX HBY
      go_enter Try.func6, Try.ntmps6
      go_wp2_with fail
      refine HS.mono ?_
      rintro e w0 ⟨rfl, hb⟩
      have HA0 : Hid (Below w.heap.size w w0) := hb
      clear hb HS
      go_wp2_with fail
      refine (HS2.out w0 HA0.out).mono ?_
      rintro e w1 ⟨rfl, hb⟩
      have HA1 : Hid (Below w.heap.size w w1) := Below.on HA0.out hb
      clear hb
      go_wp2_with fail
      go_ret
      exact ⟨rfl, HA1.out⟩
  · have er : szR 1048576 (xs.length + tl xs) = -1 := by rw [szR, if_neg hn]
    rw [er] at HS
    clear er HBX HBY
    go_enter Try.func6, Try.ntmps6
    go_wp2_with fail
    refine HS.mono ?_
    rintro e w0 ⟨rfl, hb0⟩
    go_wp2_with fail
    go_ret
    exact ⟨rfl, hb0⟩

end Go.Proofs.Ytedlcmkhbccjgaa

