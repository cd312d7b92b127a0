/- ListItems of the specification. Own work of the verifier. -/
import Derived.Test.YtopdhjnpcpkmlaaItems2
import Derived.Test.YtopdhjnpcpkmlaaCp1
namespace Go.Proofs.Ytopdhjnpcpkmlaa
open Go Go.RowKit
set_option linter.unusedVariables false

set_option maxRecDepth 100000 in
theorem isDot_any (c : Cel) (rest : List Cel) (p : Option Addr) (n cap : Nat) (w : World) (hb : Byte c.2.2) (hn : n = rest.length + 1) (hin : CIn w p (c :: rest)) :
    Calls Try.prog 53 #[.slice p n cap, .string ⟨#[46]⟩, .int .i64 2] w fun e w' => e = .returned (.bool (decide (c = dot))) ∧ w' = w := by
  obtain ⟨b, o, rfl, hcs⟩ := hin (by simp)
  obtain ⟨p0, q0, d0, d1, d2, d3⟩ := hcs 0 (by simp)
  simp only [List.getD_cons_zero, Nat.zero_mul, Nat.add_zero] at d0 d1 d2 d3
  have hcv := conv_str d3 c.2.2.length q0 rfl 9 Try.underlying9
  have hstr := str_eq hb [46]
  have hlt : (0 : Int) < n := by omega
  obtain ⟨str, es⟩ : ∃ str, str = strOfNums c.2.2 := ⟨_, rfl⟩
  rw [← es] at hcv hstr
  obtain ⟨m, em⟩ : ∃ m, m = c.2.2.length := ⟨_, rfl⟩
  rw [← em] at hcv d2
  have HEQ : Hid (c = dot ↔ c.1 = 3 ∧ c.2.1 = 2 ∧ c.2.2 = [46]) := by
    obtain ⟨a, b, d⟩ := c
    simp [dot, Hid]
  clear hcs es em hn d3
  by_cases hs : c.2.2 = [46]
  · have hs' : str.toList = [46] := hstr.2 (by rw [hs]; rfl)
    have HS : Hid (c.2.2 = [46]) := hs
    clear hs hstr
    obtain ⟨c0, e0⟩ : ∃ x, x = c.1 := ⟨_, rfl⟩
    obtain ⟨c1, e1⟩ : ∃ x, x = c.2.1 := ⟨_, rfl⟩
    rw [← e0] at d0
    rw [← e1] at d1
    have HE : Hid (c0 = c.1 ∧ c1 = c.2.1) := ⟨e0, e1⟩
    clear e0 e1
    by_cases h3 : c0 = 3
    · subst h3
      go_enter Try.func53, Try.ntmps53
      go_wp2_with fail
      go_ret
      exact ⟨ret_bool (by
        rw [Bool.eq_iff_iff]
        simp only [decide_eq_true_iff, beq_iff_eq, HEQ.out]
        have := HE.out
        constructor
        · intro h; exact ⟨this.1.symm, by rw [← this.2]; exact h, HS.out⟩
        · intro h; rw [this.2]; exact h.2.1), rfl⟩
    · have h3' : (c0 == 3) = false := by simpa using h3
      have HD : Hid (decide (c = dot) = false) := by
        show _ = _
        rw [decide_eq_false_iff_not, HEQ.out]
        exact fun h => h3 (by rw [HE.out.1]; exact h.1)
      rw [HD.out]
      clear h3
      go_enter Try.func53, Try.ntmps53
      go_wp2_with fail
      go_ret
      exact ⟨rfl, rfl⟩
  · have hs' : (str.toList == [46]) = false := by rw [beq_eq_false_iff_ne]; exact fun h => hs (by have := hstr.1 h; simpa using this)
    have HD : Hid (decide (c = dot) = false) := by
      show _ = _
      rw [decide_eq_false_iff_not, HEQ.out]
      exact fun h => hs h.2.2
    rw [HD.out]
    clear hs hstr
    go_enter Try.func53, Try.ntmps53
    go_wp2_with fail
    go_ret
    exact ⟨rfl, rfl⟩

set_option maxRecDepth 100000 in
theorem isNil_any (c : Cel) (rest : List Cel) (p : Option Addr) (n cap : Nat) (w : World) (hb : Byte c.2.2) (hcl : cellB c.1 c.2.1 c.2.2.length = true) (hn : n = rest.length + 1) (hin : CIn w p (c :: rest)) :
    Calls Try.prog 53 #[.slice p n cap, .string ⟨#[91, 93]⟩, .int .i64 0] w fun e w' => e = .returned (.bool (decide (c = nilC))) ∧ w' = w := by
  obtain ⟨b, o, rfl, hcs⟩ := hin (by simp)
  obtain ⟨p0, q0, d0, d1, d2, d3⟩ := hcs 0 (by simp)
  simp only [List.getD_cons_zero, Nat.zero_mul, Nat.add_zero] at d0 d1 d2 d3
  have hcv := conv_str d3 c.2.2.length q0 rfl 9 Try.underlying9
  have hstr := str_eq hb [91, 93]
  have hlt : (0 : Int) < n := by omega
  obtain ⟨str, es⟩ : ∃ str, str = strOfNums c.2.2 := ⟨_, rfl⟩
  rw [← es] at hcv hstr
  obtain ⟨m, em⟩ : ∃ m, m = c.2.2.length := ⟨_, rfl⟩
  rw [← em] at hcv d2
  have HEQ : Hid (c = nilC ↔ c.1 = 2 ∧ c.2.2 = [91, 93]) := by
    obtain ⟨a, b, d⟩ := c
    simp only at hcl
    constructor
    · intro h; cases h; exact ⟨rfl, rfl⟩
    · rintro ⟨h1, h2⟩
      simp only at h1 h2
      rw [h1] at hcl
      have : b = 0 := by simp [cellB] at hcl; exact hcl.2
      rw [h1, h2, this]; rfl
  clear hcs es em hn d3 hcl
  by_cases hs : c.2.2 = [91, 93]
  · have hs' : str.toList = [91, 93] := hstr.2 (by rw [hs]; rfl)
    have HS : Hid (c.2.2 = [91, 93]) := hs
    clear hs hstr
    obtain ⟨c0, e0⟩ : ∃ x, x = c.1 := ⟨_, rfl⟩
    rw [← e0] at d0
    have HE : Hid (c0 = c.1) := e0
    clear e0
    go_enter Try.func53, Try.ntmps53
    go_wp2_with fail
    go_ret
    exact ⟨ret_bool (by
      rw [Bool.eq_iff_iff]
      simp only [decide_eq_true_iff, beq_iff_eq, HEQ.out]
      constructor
      · intro h; exact ⟨by rw [← HE.out]; exact h, HS.out⟩
      · intro h; rw [HE.out]; exact h.1), rfl⟩
  · have hs' : (str.toList == [91, 93]) = false := by rw [beq_eq_false_iff_ne]; exact fun h => hs (by have := hstr.1 h; simpa using this)
    have HD : Hid (decide (c = nilC) = false) := by
      show _ = _
      rw [decide_eq_false_iff_not, HEQ.out]
      exact fun h => hs h.2
    rw [HD.out]
    clear hs hstr
    go_enter Try.func53, Try.ntmps53
    go_wp2_with fail
    go_ret
    exact ⟨rfl, rfl⟩

theorem next_any (cs : List Cel) (p : Option Addr) (n cap : Nat) (i : Nat) (c : Cel) (k : Fo) (rest : List Cel) (w : World) (hn : n = cs.length) (hl : n ≤ 2000) (hok : (Fo.node c k .nil).ok) (hd : cs.drop i = (c :: k.cells) ++ rest) (hin : CIn w p cs) :
    Calls Try.prog 71 #[.slice p n cap, .int .i64 i] w fun e w' => e = .returned (.int .i64 ((i + 1 + k.cells.length : Nat) : Int)) ∧ w' = w := by
  have HI : Hid (CIn w p cs) := hin
  have HN : Hid (n = cs.length) := hn
  obtain ⟨tot, et⟩ : ∃ tot, tot = i + 1 + k.cells.length := ⟨_, rfl⟩
  have htot : tot ≤ n := by
    have := congrArg List.length hd
    simp at this
    omega
  have HST : Hid (cs.drop i = (Fo.node c k .nil).cells ++ rest ∧ i + (Fo.node c k .nil).cells.length = tot ∧ (Fo.node c k .nil).ok) := ⟨by rw [hd]; simp [Fo.cells], by simp [Fo.cells]; omega, hok⟩
  rw [← et]
  have hit : i ≤ tot := by omega
  clear hin hn hd hok et
  go_enter Try.func71, Try.ntmps71
  go_wp2_with fail
  go_loop [1, 5] (fun a s => ∃ (R : Fo) (j m : Nat), j ≤ tot ∧ m ≤ 2000 ∧ a = .int .i64 j ∧ s = .int .i64 m ∧ Hid (cs.drop j = R.cells ++ rest ∧ j + R.cells.length = tot ∧ R.ok ∧ m = R.count)) (fun a _ => tot - (intOf a).toNat)
  case atStart => exact ⟨.node c k .nil, i, 1, hit, by decide, rfl, rfl, HST.out.1, HST.out.2.1, HST.out.2.2, rfl⟩
  case round =>
    obtain ⟨R, j, m, hj, hm, rfl, rfl, HR⟩ := hrel
    cases R with
    | nil =>
      have hm0 : m = 0 := HR.out.2.2.2
      have HJ : Hid (j = tot) := by show _ = _; have := HR.out.2.1; simpa [Fo.cells] using this
      subst hm0
      go_wp2_with fail
      go_ret
      exact ⟨ret_int (by rw [HJ.out]), rfl⟩
    | node c' k' r' =>
      have hmm : m = r'.count + 1 := HR.out.2.2.2
      obtain ⟨hd, hjt, hok', _⟩ := HR.out
      have hjl : j < cs.length := by
        have := congrArg List.length hd
        simp [Fo.cells] at this
        omega
      have hcj : cs.getD j Cel.none = c' := by
        have h1 := drop_at cs j hjl
        rw [hd] at h1
        simp only [Fo.cells, List.cons_append] at h1
        exact (List.cons.inj h1).1.symm
      have hdn : cs.drop (j + 1) = (k'.cat r').cells ++ rest := by
        have h1 := drop_at cs j hjl
        rw [hd] at h1
        simp only [Fo.cells, List.cons_append] at h1
        rw [← (List.cons.inj h1).2, Fo.cells_cat]
      obtain ⟨b, o, rfl, hcs⟩ := HI.out (by omega)
      obtain ⟨p0, q0, d0, d1, _, _⟩ := hcs j hjl
      rw [hcj] at d0 d1
      have hmp : (0 : Int) < m := by omega
      have hjn : (j : Int) < n := by rw [HN.out]; omega
      have HNEXT : Hid (cs.drop (j + 1) = (k'.cat r').cells ++ rest ∧ j + 1 + (k'.cat r').cells.length = tot ∧ (k'.cat r').ok ∧ (k'.cat r').count = k'.count + r'.count) := ⟨hdn, by rw [Fo.cells_cat]; simp [Fo.cells] at hjt; simp; omega, (Fo.ok_cat _ _).2 ⟨hok'.2.2.2.2.1, hok'.2.2.2.2.2⟩, Fo.count_cat _ _⟩
      have hcnt : k'.count + r'.count ≤ 2000 := by
        have := Fo.count_le (k'.cat r')
        have h2 := HNEXT.out.2.1
        rw [Fo.count_cat] at this
        omega
      have hjt2 : j + 1 ≤ tot := by have := HNEXT.out.2.1; omega
      have HMM : Hid (m = r'.count + 1) := hmm
      obtain ⟨c0, e0⟩ : ∃ x, x = c'.1 := ⟨_, rfl⟩
      rw [← e0] at d0
      by_cases h3 : c0 = 3
      · subst h3
        have hcn := hok'.2.2.1 e0.symm
        rw [hcn] at d1
        have HK : Hid (k'.count ≤ 2000) := by show _ ≤ _; omega
        have hk2 : k'.count ≤ 2000 := by omega
        obtain ⟨kc, ekc⟩ : ∃ kc, kc = k'.count := ⟨_, rfl⟩
        rw [← ekc] at d1 hk2
        have HKC : Hid (kc = k'.count) := ekc
        clear hcs hcj hdn hd hjt hok' hcn e0 ekc hmm HI HR
        go_wp2_with fail
        go_round
        case rel => exact ⟨k'.cat r', j + 1, kc + r'.count, hjt2, by have := HKC.out; omega, by go_num, by have := HMM.out; congr 1; omega, HNEXT.out.1, HNEXT.out.2.1, HNEXT.out.2.2.1, by rw [HNEXT.out.2.2.2, HKC.out]⟩
        case measure => simp [intOf]; omega
      · have h3' : (c0 == 3) = false := by simpa using h3
        have hk' : k' = .nil := hok'.2.2.2.1 (by rw [← e0]; exact h3)
        subst hk'
        clear hcs hcj hdn hd hjt hok' e0 hmm HI HR h3
        go_wp2_with fail
        go_round
        case rel => exact ⟨Fo.nil.cat r', j + 1, r'.count, hjt2, by simp [Fo.count] at hcnt; omega, by go_num, by have := HMM.out; congr 1; omega, HNEXT.out.1, HNEXT.out.2.1, HNEXT.out.2.2.1, rfl⟩
        case measure => simp [intOf]; omega

end Go.Proofs.Ytopdhjnpcpkmlaa
