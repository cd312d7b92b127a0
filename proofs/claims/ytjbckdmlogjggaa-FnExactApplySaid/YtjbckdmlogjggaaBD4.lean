/- What is a substitution: isSubstitution, l5index. Own work of the verifier. -/
import Derived.Test.YtjbckdmlogjggaaBD1
import Derived.Test.YtjbckdmlogjggaaVarG
import Derived.Test.YtjbckdmlogjggaaSubP
namespace Go.Proofs.Ytjbckdmlogjggaa
open Go Go.RowKit
set_option linter.unusedVariables false

def bndB (last : Int) (b : Bnd) : Bool := decide (last < b.1) && decide (b.1 ≤ 1000000) && validB b.2
def substFrom : Int → List Bnd → Bool
  | _, [] => true
  | last, b :: r => bndB last b && substFrom b.1 r
def substB (bs : List Bnd) : Bool := decide (bs.length ≤ 1000) && substFrom (-1) bs
/-- The number ahead of the k-th. -/
def lastB (bs : List Bnd) (k : Nat) : Int := if k = 0 then -1 else (bs.getD (k - 1) Bnd.zero).1
theorem substFrom_at (bs : List Bnd) (k : Nat) (h : k < bs.length) (last : Int) : substFrom last (bs.drop k) = (bndB last (bs.getD k Bnd.zero) && substFrom (bs.getD k Bnd.zero).1 (bs.drop (k + 1))) := by
  rw [List.drop_eq_getElem_cons h, substFrom]
  simp [List.getD, h]
theorem lastB_succ (bs : List Bnd) (k : Nat) : lastB bs (k + 1) = (bs.getD k Bnd.zero).1 := by simp [lastB]
/-- Of a substitution: its numbers go up; its terms are valid. -/
theorem substFrom_mem : ∀ (bs : List Bnd) (last : Int), substFrom last bs = true → ∀ b ∈ bs, last < b.1 ∧ b.1 ≤ 1000000 ∧ validB b.2 = true
  | [], _, _, b, h => by cases h
  | x :: r, last, h, b, hb => by
    simp only [substFrom, bndB, Bool.and_eq_true, decide_eq_true_eq] at h
    rcases List.mem_cons.1 hb with rfl | hb
    · exact ⟨h.1.1.1, h.1.1.2, h.1.2⟩
    · have := substFrom_mem r x.1 h.2 b hb
      exact ⟨by omega, this.2⟩
theorem substFrom_up : ∀ (bs : List Bnd) (last : Int), substFrom last bs = true → ∀ i j, i < j → j < bs.length → (bs.getD i Bnd.zero).1 < (bs.getD j Bnd.zero).1
  | [], _, _, i, j, _, h => by simp at h
  | x :: r, last, h, i, j, hij, hj => by
    simp only [substFrom, bndB, Bool.and_eq_true, decide_eq_true_eq] at h
    cases j with
    | zero => omega
    | succ j =>
      have hj' : j < r.length := by simpa using hj
      cases i with
      | zero =>
        have := (substFrom_mem r x.1 h.2 (r.getD j Bnd.zero) (by simp [List.getD, hj'])).1
        simpa using this
      | succ i => simpa using substFrom_up r x.1 h.2 i j (by omega) hj'

set_option maxRecDepth 100000 in
set_option maxHeartbeats 1000000 in
theorem implSubst_any (p : Option Addr) (n c : Nat) (bs : List Bnd) (w : World) (hn : n = bs.length) (hb : n ≤ 1048576) (hl : bs.length + tll (trm bs) ≤ 1048576) (hin : BdIn w p bs) :
    Calls Try.prog 43 #[.slice p n c] w fun e w' => e = .returned (.bool (substB bs)) ∧ Below w.heap.size w w' := by
  have HI : Hid (BdIn w p bs) := hin
  have HN : Hid (n = bs.length) := hn
  by_cases h1 : n ≤ 1000
  · obtain ⟨R, eR⟩ : ∃ R, R = substFrom (-1) bs := ⟨_, rfl⟩
    have hR : substB bs = R := by rw [substB, eR, ← hn, decide_eq_true h1]; rfl
    rw [hR]
    have HR : Hid (R = substFrom (-1) (bs.drop 0)) := by show _ = _; rw [eR, List.drop_zero]
    clear hin hn hR eR
    go_enter Try.func43, Try.ntmps43
    go_wp2_with fail
    go_loopw [3, 11] (fun l i wr => ∃ (k : Nat) (last : Int), k ≤ n ∧ i = .int .i64 k ∧ l = .int .i64 last ∧ -1 ≤ last ∧ last ≤ 1000000 ∧ Hid (R = substFrom last (bs.drop k)) ∧ Hid (Below w.heap.size w wr)) (fun _ i _ => n - (intOf i).toNat)
    case atStart => exact ⟨0, -1, Nat.zero_le _, rfl, rfl, by decide, by decide, HR, Below.refl _ _⟩
    case round =>
      obtain ⟨k, last, hk, rfl, rfl, hl0, hl1, HR, HB⟩ := hrel
      by_cases hlt : k < n
      · have hkl : k < bs.length := by rw [← HN.out]; exact hlt
        obtain ⟨b, o, rfl, hcs⟩ := (HI.out.below HB.out) (by omega)
        obtain ⟨q, qc, d0, d1, d2⟩ := hcs k hkl
        have hst := substFrom_at bs k hkl last
        have hbd := tll_at (trm bs) k (by rw [trm_len]; exact hkl)
        rw [trm_at] at hbd
        obtain ⟨m, em⟩ : ∃ x, x = (bs.getD k Bnd.zero).2.length := ⟨_, rfl⟩
        obtain ⟨vv, evv⟩ : ∃ x, x = (bs.getD k Bnd.zero).1 := ⟨_, rfl⟩
        have HV : Hid (∀ W, Below wr.heap.size wr W → Calls Try.prog 31 #[.slice q m qc] W fun e w' => e = .returned (.bool (validB (bs.getD k Bnd.zero).2)) ∧ Below W.heap.size W w') := fun W hW => by rw [em]; exact implValid_any q qc (bs.getD k Bnd.zero).2 W (by omega) (d2.below hW)
        have HA : Hid (∀ o, Below wr.heap.size wr (wr.alloc o)) := fun o => (Below.refl _ _).alloc (Nat.le_refl _) _
        rw [bndB, ← evv] at hst
        rw [← em] at d1
        rw [← evv] at d0
        clear hcs d2 hbd em evv
        by_cases hv1 : last < vv
        · by_cases hv2 : vv ≤ 1000000
          · have hv1' : ¬ vv ≤ last := by omega
            have hv2' : ¬ 1000000 < vv := by omega
            rw [decide_eq_true hv1, decide_eq_true hv2] at hst
            obtain ⟨r, er⟩ : ∃ r, r = validB (bs.getD k Bnd.zero).2 := ⟨_, rfl⟩
            rw [← er] at hst HV
            cases r with
            | true =>
              have HR2 : Hid (R = substFrom vv (bs.drop (k + 1))) := by show _ = _; rw [HR.out, hst]; simp
              clear hst er
              go_wp2_with fail
              refine (HV.out _ (HA.out _)).mono ?_
              rintro e w2 ⟨rfl, hb2⟩
              have HB2 : Hid (Below w.heap.size w w2) := Below.on HB.out (Below.on (HA.out _) hb2)
              have k1 : w2.cell? ⟨wr.heap.size, 0, none⟩ = some (.int .i64 vv) := (hb2.cell (p := ⟨wr.heap.size, 0, none⟩) (by show _ < (wr.alloc _).heap.size; simp)).trans (cell_of_row _ _ 0 _ _ _ (heap_alloc_new wr _))
              clear hb2
              go_wp2_with fail
              go_roundw
              case rel => exact ⟨k + 1, vv, by omega, by go_num, rfl, by omega, hv2, HR2, HB2⟩
              case measure => simp [intOf]; omega
            | false =>
              have HR2 : Hid (R = false) := by show _ = _; rw [HR.out, hst]; simp
              clear hst er
              go_wp2_with fail
              refine (HV.out _ (HA.out _)).mono ?_
              rintro e w2 ⟨rfl, hb2⟩
              have HB2 : Hid (Below w.heap.size w w2) := Below.on HB.out (Below.on (HA.out _) hb2)
              clear hb2
              go_wp2_with fail
              go_ret
              exact ⟨ret_bool HR2.out.symm, HB2.out⟩
          · have hv1' : ¬ vv ≤ last := by omega
            have hv2' : 1000000 < vv := by omega
            have HR2 : Hid (R = false) := by show _ = _; rw [HR.out, hst, decide_eq_false hv2]; simp
            clear hst hv2
            go_wp2_with fail
            go_ret
            exact ⟨ret_bool HR2.out.symm, HB.out.alloc HB.out.size _⟩
        · have hv1' : vv ≤ last := by omega
          have HR2 : Hid (R = false) := by show _ = _; rw [HR.out, hst, decide_eq_false hv1]; simp
          clear hst hv1
          go_wp2_with fail
          go_ret
          exact ⟨ret_bool HR2.out.symm, HB.out.alloc HB.out.size _⟩
      · obtain rfl : k = n := by omega
        have HR2 : Hid (R = true) := by show _ = _; rw [HR.out, List.drop_eq_nil_of_le (by rw [← HN.out]; exact Nat.le_refl _)]; rfl
        go_wp2_with fail
        go_ret
        exact ⟨ret_bool HR2.out.symm, HB.out⟩
  · have hR : substB bs = false := by rw [substB, ← hn, decide_eq_false h1]; rfl
    rw [hR]
    have h1' : (1000 : Int) < (n : Int) := by omega
    clear hin hn hR h1
    go_enter Try.func43, Try.ntmps43
    go_wp2_with fail
    go_ret
    exact ⟨rfl, Below.refl _ _⟩

set_option maxRecDepth 100000 in
set_option maxHeartbeats 1000000 in
theorem l5index_any (p : Option Addr) (n c : Nat) (bs : List Bnd) (v : Int) (w : World) (hn : n = bs.length) (hb : n ≤ 1000000) (hup : ∀ i j, i < j → j < bs.length → (bs.getD i Bnd.zero).1 < (bs.getD j Bnd.zero).1) (hin : BdIn w p bs) :
    Calls Try.prog 40 #[.slice p n c, .int .i64 v] w fun e w' => e = .returned (.int .i64 (findI (bs.map Prod.fst) v)) ∧ w' = w := by
  have hkey : ∀ i, i < bs.length → (bs.map Prod.fst).getD i 0 = (bs.getD i Bnd.zero).1 := fun i hi => by simp [List.getD, hi]
  have HI : Hid (BdIn w p bs) := hin
  have HN : Hid (n = bs.length) := hn
  have HUP : Hid _ := hup
  have HKY : Hid _ := hkey
  clear hin hn hup hkey
  obtain ⟨R, eR⟩ : ∃ R, R = findI (bs.map Prod.fst) v := ⟨_, rfl⟩
  have HER : Hid (R = findI (bs.map Prod.fst) v) := eR
  rw [← eR]
  clear eR
  go_enter Try.func40, Try.ntmps40
  go_wp2_with fail
  go_loop [5, 6] (fun a b => ∃ (l h : Nat), l ≤ h ∧ h ≤ n ∧ a = .int .i64 l ∧ b = .int .i64 h ∧ Hid (∀ i, i < l → (bs.getD i Bnd.zero).1 < v) ∧ Hid (∀ i, h ≤ i → i < n → v ≤ (bs.getD i Bnd.zero).1)) (fun a b => (intOf b).toNat - (intOf a).toNat)
  case atStart => exact ⟨0, n, Nat.zero_le _, Nat.le_refl _, rfl, rfl, fun i h => by omega, fun i h1 h2 => by omega⟩
  case round =>
    obtain ⟨l, h, hlh, hhn, rfl, rfl, HL, HH⟩ := hrel
    by_cases hlt : l < h
    · obtain ⟨m, em⟩ : ∃ m, m = (l + h) / 2 := ⟨_, rfl⟩
      have hml : l ≤ m := by omega
      have hmh : m < h := by omega
      have hme : ((l : Int) + (h : Int)) / 2 = (m : Int) := by omega
      have hmn : m < bs.length := by rw [← HN.out]; omega
      obtain ⟨b, o, rfl, hcs⟩ := HI.out (by omega)
      obtain ⟨q, qc, d0, _, _⟩ := hcs m hmn
      obtain ⟨vv, evv⟩ : ∃ x, x = (bs.getD m Bnd.zero).1 := ⟨_, rfl⟩
      rw [← evv] at d0
      have HEV : Hid (vv = (bs.getD m Bnd.zero).1) := evv
      have hm0 : (0 : Int) ≤ (m : Int) := by omega
      have hmn' : (m : Int) < (n : Int) := by omega
      clear hcs em evv
      by_cases hv : vv < v
      · have HL2 : Hid (∀ i, i < m + 1 → (bs.getD i Bnd.zero).1 < v) := fun i hi => by
          rcases Nat.lt_or_ge i m with h' | h'
          · have := HUP.out i m h' hmn
            have := HEV.out
            omega
          · have e : i = m := by omega
            rw [e, ← HEV.out]; exact hv
        go_wp2_with fail
        go_round
        case rel => exact ⟨m + 1, h, by omega, hhn, by go_num, rfl, HL2, HH⟩
        case measure => simp [intOf]; omega
      · have HH2 : Hid (∀ i, m ≤ i → i < n → v ≤ (bs.getD i Bnd.zero).1) := fun i h1 h2 => by
          have := HEV.out
          rcases Nat.lt_or_ge m i with h' | h'
          · have := HUP.out m i h' (by rw [← HN.out]; exact h2)
            omega
          · have e : i = m := by omega
            rw [e, ← HEV.out]; omega
        go_wp2_with fail
        go_round
        case rel => exact ⟨l, m, hml, by omega, rfl, by rw [hme], HL, HH2⟩
        case measure => simp [intOf]; omega
    · obtain rfl : l = h := by omega
      by_cases hln : l < n
      · have hll : l < bs.length := by rw [← HN.out]; exact hln
        obtain ⟨b, o, rfl, hcs⟩ := HI.out (by omega)
        obtain ⟨q, qc, d0, _, _⟩ := hcs l hll
        obtain ⟨vv, evv⟩ : ∃ x, x = (bs.getD l Bnd.zero).1 := ⟨_, rfl⟩
        rw [← evv] at d0
        have HEV : Hid (vv = (bs.getD l Bnd.zero).1) := evv
        clear hcs evv
        by_cases hv : vv = v
        · subst hv
          have HF : Hid (R = (l : Int)) := by
            show _ = _
            rw [HER.out]
            refine find_at (by simp; exact hll) (fun i hi => ?_) (by rw [HKY.out l hll, ← HEV.out])
            rw [HKY.out i (by omega)]
            have := HL.out i hi
            omega
          go_wp2_with fail
          go_ret
          exact ⟨ret_int HF.out.symm, rfl⟩
        · have HF : Hid (R = -1) := by
            show _ = _
            rw [HER.out]
            refine find_none fun i hi => ?_
            have hi' : i < bs.length := by simpa using hi
            rw [HKY.out i hi']
            have h1 := HH.out l (Nat.le_refl _) hln
            have h2 := HEV.out
            rcases Nat.lt_trichotomy i l with h' | h' | h'
            · have := HL.out i h'; omega
            · rw [h', ← h2]; exact hv
            · have := HUP.out l i h' hi'; omega
          have hv' : (vv == v) = false := by simpa using hv
          go_wp2_with fail
          go_ret
          exact ⟨ret_int HF.out.symm, rfl⟩
      · have HF : Hid (R = -1) := by
          show _ = _
          rw [HER.out]
          refine find_none fun i hi => ?_
          have hi' : i < bs.length := by simpa using hi
          rw [HKY.out i hi']
          have := HL.out i (by have := HN.out; omega)
          omega
        go_wp2_with fail
        go_ret
        exact ⟨ret_int HF.out.symm, rfl⟩

end Go.Proofs.Ytjbckdmlogjggaa
