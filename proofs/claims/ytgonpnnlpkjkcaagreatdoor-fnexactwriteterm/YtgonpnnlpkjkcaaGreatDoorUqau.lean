/- Texts of SSG, ItS, WtB. Own work of the verifier. -/
import Derived.Test.YtgonpnnlpkjkcaaGreatDoorUqat
import Derived.Test.YtgonpnnlpkjkcaaGreatDoorUqap
import Derived.Test.YtgonpnnlpkjkcaaGreatDoorUqag
import Derived.Test.YtgonpnnlpkjkcaaGreatDoorUqas
namespace Go.Proofs.YtgonpnnlpkjkcaaGreatDoor
open Go Go.RowKit
set_option linter.unusedVariables false

theorem infoCells : (Tryz.prog.info? 32).map (fun i => (i.zero, i.size, i.bytes)) = some (some (.slice none 0 0), 1, 24) := by kernel_rfl
/-- An item: where it lies, its capacity, the blocks from .. to. -/
abbrev It := Option Addr × Nat × Nat × Nat
def It.zero : It := (none, 0, 0, 0)
theorem ds_append_at (ds : List It) (r : It) (i : Nat) (h : i ≤ ds.length) : (ds ++ [r]).getD i It.zero = if i = ds.length then r else ds.getD i It.zero := by
  by_cases e : i = ds.length
  · subst e; simp [List.getD]
  · rw [if_neg e, List.getD, List.getD, List.getElem?_append_left (by omega)]
/-- How much there is in all. -/
def tll : List (List Cel) → Nat
  | [] => 0
  | c :: r => c.length + tl c + tll r
theorem tll_at : ∀ (css : List (List Cel)) (i : Nat), i < css.length → (css.getD i []).length + tl (css.getD i []) ≤ tll css
  | [], i, h => by simp at h
  | c :: r, 0, _ => by simp [tll]
  | c :: r, i + 1, h => by have := tll_at r i (by simpa using h); simp only [tll, List.getD_cons_succ]; omega
theorem endC_eq (k : Int) (cs : List Cel) : endC k cs = k + 2 * cs.length + tl cs := by simp [endC, kAt]
theorem tll_take : ∀ (css : List (List Cel)) (k : Nat), k < css.length → tll (css.take (k + 1)) = tll (css.take k) + ((css.getD k []).length + tl (css.getD k []))
  | [], k, h => by simp at h
  | c :: r, 0, _ => by simp [tll]
  | c :: r, k + 1, h => by
    have := tll_take r k (by simpa using h)
    simp only [List.take_succ_cons, tll, this]
    simp; omega
theorem tll_take_le : ∀ (css : List (List Cel)) (k : Nat), tll (css.take k) ≤ tll css
  | [], k => by simp [tll]
  | c :: r, 0 => by simp [tll]
  | c :: r, k + 1 => by have := tll_take_le r k; simp only [List.take_succ_cons, tll]; omega

end Go.Proofs.YtgonpnnlpkjkcaaGreatDoor

namespace Go.Proofs.YtgonpnnlpkjkcaaGreatDoor
open Go Go.RowKit
set_option linter.unusedVariables false

set_option maxRecDepth 100000 in
theorem isDot_any (c : Cel) (rest : List Cel) (p : Option Addr) (n cap : Nat) (w : World) (hb : Byte c.2.2) (hn : n = rest.length + 1) (hin : CIn w p (c :: rest)) :
    Calls Tryz.prog 42 #[.slice p n cap, .string ⟨#[46]⟩, .int .i64 2] w fun e w' => e = .returned (.bool (decide (c = dot))) ∧ w' = w := by
  obtain ⟨b, o, rfl, hcs⟩ := hin (by simp)
  obtain ⟨p0, q0, d0, d1, d2, d3⟩ := hcs 0 (by simp)
  simp only [List.getD_cons_zero, Nat.zero_mul, Nat.add_zero] at d0 d1 d2 d3
  have hcv := conv_str d3 c.2.2.length q0 rfl 9 Tryz.underlying9
  have hstr := str_eq hb [46]
  have hlt : (0 : Int) < n := by omega
  obtain ⟨str, es⟩ : ∃ str, str = strOfNums c.2.2 := ⟨_, rfl⟩
  rw [← es] at hcv hstr
  obtain ⟨m, em⟩ : ∃ m, m = c.2.2.length := ⟨_, rfl⟩
  rw [← em] at hcv d2
  have HEQ : Hid (c = dot ↔ c.1 = 3 ∧ c.2.1 = 2 ∧ c.2.2 = [46]) := by
    obtain ⟨a, b, d⟩ := c
    simp [dot, Hid]
  clear hcs es em hn d3
  by_cases hs : c.2.2 = [46]
  · have hs' : str.toList = [46] := hstr.2 (by rw [hs]; rfl)
    have HS : Hid (c.2.2 = [46]) := hs
    clear hs hstr
    obtain ⟨c0, e0⟩ : ∃ x, x = c.1 := ⟨_, rfl⟩
    obtain ⟨c1, e1⟩ : ∃ x, x = c.2.1 := ⟨_, rfl⟩
    rw [← e0] at d0
    rw [← e1] at d1
    have HE : Hid (c0 = c.1 ∧ c1 = c.2.1) := ⟨e0, e1⟩
    clear e0 e1
    by_cases h3 : c0 = 3
    · subst h3
      go_enter Tryz.func42, Tryz.ntmps42
      go_wp2_with fail
      go_ret
      exact ⟨ret_bool (by
        rw [Bool.eq_iff_iff]
        simp only [decide_eq_true_iff, beq_iff_eq, HEQ.out]
        have := HE.out
        constructor
        · intro h; exact ⟨this.1.symm, by rw [← this.2]; exact h, HS.out⟩
        · intro h; rw [this.2]; exact h.2.1), rfl⟩
    · have h3' : (c0 == 3) = false := by simpa using h3
      have HD : Hid (decide (c = dot) = false) := by
        show _ = _
        rw [decide_eq_false_iff_not, HEQ.out]
        exact fun h => h3 (by rw [HE.out.1]; exact h.1)
      rw [HD.out]
      clear h3
      go_enter Tryz.func42, Tryz.ntmps42
      go_wp2_with fail
      go_ret
      exact ⟨rfl, rfl⟩
  · have hs' : (str.toList == [46]) = false := by rw [beq_eq_false_iff_ne]; exact fun h => hs (by have := hstr.1 h; simpa using this)
    have HD : Hid (decide (c = dot) = false) := by
      show _ = _
      rw [decide_eq_false_iff_not, HEQ.out]
      exact fun h => hs h.2.2
    rw [HD.out]
    clear hs hstr
    go_enter Tryz.func42, Tryz.ntmps42
    go_wp2_with fail
    go_ret
    exact ⟨rfl, rfl⟩
set_option maxRecDepth 100000 in
theorem isNil_any (c : Cel) (rest : List Cel) (p : Option Addr) (n cap : Nat) (w : World) (hb : Byte c.2.2) (hcl : cellB c.1 c.2.1 c.2.2.length = true) (hn : n = rest.length + 1) (hin : CIn w p (c :: rest)) :
    Calls Tryz.prog 42 #[.slice p n cap, .string ⟨#[91, 93]⟩, .int .i64 0] w fun e w' => e = .returned (.bool (decide (c = nilC))) ∧ w' = w := by
  obtain ⟨b, o, rfl, hcs⟩ := hin (by simp)
  obtain ⟨p0, q0, d0, d1, d2, d3⟩ := hcs 0 (by simp)
  simp only [List.getD_cons_zero, Nat.zero_mul, Nat.add_zero] at d0 d1 d2 d3
  have hcv := conv_str d3 c.2.2.length q0 rfl 9 Tryz.underlying9
  have hstr := str_eq hb [91, 93]
  have hlt : (0 : Int) < n := by omega
  obtain ⟨str, es⟩ : ∃ str, str = strOfNums c.2.2 := ⟨_, rfl⟩
  rw [← es] at hcv hstr
  obtain ⟨m, em⟩ : ∃ m, m = c.2.2.length := ⟨_, rfl⟩
  rw [← em] at hcv d2
  have HEQ : Hid (c = nilC ↔ c.1 = 2 ∧ c.2.2 = [91, 93]) := by
    obtain ⟨a, b, d⟩ := c
    simp only at hcl
    constructor
    · intro h; cases h; exact ⟨rfl, rfl⟩
    · rintro ⟨h1, h2⟩
      simp only at h1 h2
      rw [h1] at hcl
      have : b = 0 := by simp [cellB] at hcl; exact hcl.2
      rw [h1, h2, this]; rfl
  clear hcs es em hn d3 hcl
  by_cases hs : c.2.2 = [91, 93]
  · have hs' : str.toList = [91, 93] := hstr.2 (by rw [hs]; rfl)
    have HS : Hid (c.2.2 = [91, 93]) := hs
    clear hs hstr
    obtain ⟨c0, e0⟩ : ∃ x, x = c.1 := ⟨_, rfl⟩
    rw [← e0] at d0
    have HE : Hid (c0 = c.1) := e0
    clear e0
    go_enter Tryz.func42, Tryz.ntmps42
    go_wp2_with fail
    go_ret
    exact ⟨ret_bool (by
      rw [Bool.eq_iff_iff]
      simp only [decide_eq_true_iff, beq_iff_eq, HEQ.out]
      constructor
      · intro h; exact ⟨by rw [← HE.out]; exact h, HS.out⟩
      · intro h; rw [HE.out]; exact h.1), rfl⟩
  · have hs' : (str.toList == [91, 93]) = false := by rw [beq_eq_false_iff_ne]; exact fun h => hs (by have := hstr.1 h; simpa using this)
    have HD : Hid (decide (c = nilC) = false) := by
      show _ = _
      rw [decide_eq_false_iff_not, HEQ.out]
      exact fun h => hs h.2
    rw [HD.out]
    clear hs hstr
    go_enter Tryz.func42, Tryz.ntmps42
    go_wp2_with fail
    go_ret
    exact ⟨rfl, rfl⟩
theorem next_any (cs : List Cel) (p : Option Addr) (n cap : Nat) (i : Nat) (c : Cel) (k : Fo) (rest : List Cel) (w : World) (hn : n = cs.length) (hl : n ≤ 2000) (hok : (Fo.node c k .nil).ok) (hd : cs.drop i = (c :: k.cells) ++ rest) (hin : CIn w p cs) :
    Calls Tryz.prog 56 #[.slice p n cap, .int .i64 i] w fun e w' => e = .returned (.int .i64 ((i + 1 + k.cells.length : Nat) : Int)) ∧ w' = w := by
  have HI : Hid (CIn w p cs) := hin
  have HN : Hid (n = cs.length) := hn
  obtain ⟨tot, et⟩ : ∃ tot, tot = i + 1 + k.cells.length := ⟨_, rfl⟩
  have htot : tot ≤ n := by
    have := congrArg List.length hd
    simp at this
    omega
  have HST : Hid (cs.drop i = (Fo.node c k .nil).cells ++ rest ∧ i + (Fo.node c k .nil).cells.length = tot ∧ (Fo.node c k .nil).ok) := ⟨by rw [hd]; simp [Fo.cells], by simp [Fo.cells]; omega, hok⟩
  rw [← et]
  have hit : i ≤ tot := by omega
  clear hin hn hd hok et
  go_enter Tryz.func56, Tryz.ntmps56
  go_wp2_with fail
  go_loop [1, 5] (fun a s => ∃ (R : Fo) (j m : Nat), j ≤ tot ∧ m ≤ 2000 ∧ a = .int .i64 j ∧ s = .int .i64 m ∧ Hid (cs.drop j = R.cells ++ rest ∧ j + R.cells.length = tot ∧ R.ok ∧ m = R.count)) (fun a _ => tot - (intOf a).toNat)
  case atStart => exact ⟨.node c k .nil, i, 1, hit, by decide, rfl, rfl, HST.out.1, HST.out.2.1, HST.out.2.2, rfl⟩
  case round =>
    obtain ⟨R, j, m, hj, hm, rfl, rfl, HR⟩ := hrel
    cases R with
    | nil =>
      have hm0 : m = 0 := HR.out.2.2.2
      have HJ : Hid (j = tot) := by show _ = _; have := HR.out.2.1; simpa [Fo.cells] using this
      subst hm0
      go_wp2_with fail
      go_ret
      exact ⟨ret_int (by rw [HJ.out]), rfl⟩
    | node c' k' r' =>
      have hmm : m = r'.count + 1 := HR.out.2.2.2
      obtain ⟨hd, hjt, hok', _⟩ := HR.out
      have hjl : j < cs.length := by
        have := congrArg List.length hd
        simp [Fo.cells] at this
        omega
      have hcj : cs.getD j Cel.none = c' := by
        have h1 := drop_at cs j hjl
        rw [hd] at h1
        simp only [Fo.cells, List.cons_append] at h1
        exact (List.cons.inj h1).1.symm
      have hdn : cs.drop (j + 1) = (k'.cat r').cells ++ rest := by
        have h1 := drop_at cs j hjl
        rw [hd] at h1
        simp only [Fo.cells, List.cons_append] at h1
        rw [← (List.cons.inj h1).2, Fo.cells_cat]
      obtain ⟨b, o, rfl, hcs⟩ := HI.out (by omega)
      obtain ⟨p0, q0, d0, d1, _, _⟩ := hcs j hjl
      rw [hcj] at d0 d1
      have hmp : (0 : Int) < m := by omega
      have hjn : (j : Int) < n := by rw [HN.out]; omega
      have HNEXT : Hid (cs.drop (j + 1) = (k'.cat r').cells ++ rest ∧ j + 1 + (k'.cat r').cells.length = tot ∧ (k'.cat r').ok ∧ (k'.cat r').count = k'.count + r'.count) := ⟨hdn, by rw [Fo.cells_cat]; simp [Fo.cells] at hjt; simp; omega, (Fo.ok_cat _ _).2 ⟨hok'.2.2.2.2.1, hok'.2.2.2.2.2⟩, Fo.count_cat _ _⟩
      have hcnt : k'.count + r'.count ≤ 2000 := by
        have := Fo.count_le (k'.cat r')
        have h2 := HNEXT.out.2.1
        rw [Fo.count_cat] at this
        omega
      have hjt2 : j + 1 ≤ tot := by have := HNEXT.out.2.1; omega
      have HMM : Hid (m = r'.count + 1) := hmm
      obtain ⟨c0, e0⟩ : ∃ x, x = c'.1 := ⟨_, rfl⟩
      rw [← e0] at d0
      by_cases h3 : c0 = 3
      · subst h3
        have hcn := hok'.2.2.1 e0.symm
        rw [hcn] at d1
        have HK : Hid (k'.count ≤ 2000) := by show _ ≤ _; omega
        have hk2 : k'.count ≤ 2000 := by omega
        obtain ⟨kc, ekc⟩ : ∃ kc, kc = k'.count := ⟨_, rfl⟩
        rw [← ekc] at d1 hk2
        have HKC : Hid (kc = k'.count) := ekc
        clear hcs hcj hdn hd hjt hok' hcn e0 ekc hmm HI HR
        go_wp2_with fail
        go_round
        case rel => exact ⟨k'.cat r', j + 1, kc + r'.count, hjt2, by have := HKC.out; omega, by go_num, by have := HMM.out; congr 1; omega, HNEXT.out.1, HNEXT.out.2.1, HNEXT.out.2.2.1, by rw [HNEXT.out.2.2.2, HKC.out]⟩
        case measure => simp [intOf]; omega
      · have h3' : (c0 == 3) = false := by simpa using h3
        have hk' : k' = .nil := hok'.2.2.2.1 (by rw [← e0]; exact h3)
        subst hk'
        clear hcs hcj hdn hd hjt hok' e0 hmm HI HR h3
        go_wp2_with fail
        go_round
        case rel => exact ⟨Fo.nil.cat r', j + 1, r'.count, hjt2, by simp [Fo.count] at hcnt; omega, by go_num, by have := HMM.out; congr 1; omega, HNEXT.out.1, HNEXT.out.2.1, HNEXT.out.2.2.1, rfl⟩
        case measure => simp [intOf]; omega
/-- A part of a slice of cells. -/
theorem CIn.partI {w : World} {b o : Nat} {cs a m r : List Cel} (h : CIn w (some ⟨b, o, none⟩) cs) (e : cs = a ++ (m ++ r)) : CIn w (some ⟨b, o + a.length * 3, none⟩) m := fun hm => by
  obtain ⟨b', o', e', hc⟩ := h (by rw [e]; simp; omega)
  cases e'
  refine ⟨b, o + a.length * 3, rfl, fun i hi => ?_⟩
  have := hc (a.length + i) (by rw [e]; simp; omega)
  rw [show o + (a.length + i) * 3 = o + a.length * 3 + i * 3 by omega] at this
  have e2 : cs.getD (a.length + i) Cel.none = m.getD i Cel.none := by
    rw [e, List.getD, List.getElem?_append_right (by omega), show a.length + i - a.length = i by omega, List.getElem?_append_left hi, List.getD]
  rwa [e2] at this

/-- The values of slices that lie so. -/
def ItV (w : World) (its : List (Cel × Fo)) (us : List Value) : Prop := us.length = its.length ∧ ∀ i (h : i < its.length), ∃ q c, us[i]? = some (.slice q (itC its[i]).length c) ∧ CIn w q (itC its[i])
theorem ItV.snoc {w : World} {its : List (Cel × Fo)} {us : List Value} (h : ItV w its us) (x : Cel × Fo) (q : Option Addr) (c : Nat) (hq : CIn w q (itC x)) : ItV w (its ++ [x]) (us ++ [.slice q (itC x).length c]) := by
  refine ⟨by simp [h.1], fun i hi => ?_⟩
  by_cases e : i < its.length
  · obtain ⟨q', c', h1, h2⟩ := h.2 i e
    refine ⟨q', c', ?_, ?_⟩
    · rw [List.getElem?_append_left (by rw [h.1]; exact e), h1, List.getElem_append_left e]
    · rw [List.getElem_append_left e]; exact h2
  · have e' : i = its.length := by simp at hi; omega
    subst e'
    refine ⟨q, c, ?_, ?_⟩
    · rw [List.getElem?_append_right (by rw [h.1]; exact Nat.le_refl _), h.1]; simp
    · simpa using hq
theorem one_slice (q : Option Addr) (m c : Nat) : ∀ u ∈ [Value.slice q m c], u.oneCell' = true := fun u hu => by simp at hu; rw [hu]; rfl
/-- What l2items answers. -/
def L2Out (w : World) (c : Cel) (k : Fo) (e : Ending) (w' : World) : Prop :=
  ∃ p n cp q m cq us, e = .returned (.tuple #[.slice p n cp, .slice q m cq]) ∧ n = (splitF c k).1.length ∧ m = (itC (splitF c k).2).length ∧ w'.ownsRow w.heap.size 32 1 (.slice p n cp) n us ∧ ItV w (splitF c k).1 us ∧ CIn w q (itC (splitF c k).2) ∧
    (itsF (splitF c k).1).ok ∧ (Fo.node (splitF c k).2.1 (splitF c k).2.2 .nil).ok ∧ Below w.heap.size w w'
set_option maxRecDepth 100000 in
set_option maxHeartbeats 1000000 in
theorem l2items_any (c : Cel) (k : Fo) (p : Option Addr) (n cap : Nat) (w : World) (hok : (Fo.node c k .nil).ok) (hn : n = k.cells.length + 1) (hl : n ≤ 2000) (hc : n ≤ cap) (hm : cap ≤ 1000000000) (hin : CIn w p (c :: k.cells)) :
    Calls Tryz.prog 43 #[.slice p n cap] w (L2Out w c k) := by
  have HIN : Hid (CIn w p (c :: k.cells)) := hin
  have HOK : Hid (Fo.node c k .nil).ok := hok
  have HN : Hid (n = k.cells.length + 1) := hn
  clear hin hok hn
  obtain ⟨i0, hi, hz0, hz1, hz2⟩ := info_parts infoCells
  go_enter Tryz.func43, Tryz.ntmps43
  go_wp2_with fail
  go_loopw [0, 4] (fun t s wr => ∃ (its : List (Cel × Fo)) (c' : Cel) (k' : Fo) (us : List Value) (p' : Option Addr) (n' cap' : Nat) (p4 : Option Addr) (n4 c4 : Nat), n' ≤ 2000 ∧ n4 ≤ 2000 ∧ n4 + n' ≤ 2000 ∧ n' ≤ cap' ∧ cap' ≤ 1000000000 ∧ t = .slice p' n' cap' ∧ s = .slice p4 n4 c4 ∧ Hid (splitF c k = (its ++ (splitF c' k').1, (splitF c' k').2) ∧ n4 = its.length ∧ n' = k'.cells.length + 1) ∧
    Hid (CIn w p' (c' :: k'.cells)) ∧ Hid ((Fo.node c' k' .nil).ok ∧ (itsF its).ok) ∧ Hid (ItV w its us) ∧ Hid (wr.ownsRow w.heap.size 32 1 (.slice p4 n4 c4) n4 us) ∧ Hid (Below w.heap.size w wr)) (fun t _ _ => lenOf t)
  case atStart => exact ⟨[], c, k, [], p, n, cap, none, 0, 0, hl, by decide, by omega, hc, hm, rfl, rfl, ⟨rfl, rfl, HN.out⟩, HIN, ⟨HOK.out, trivial⟩, ⟨rfl, fun i h => by simp at h⟩, World.ownsRow_nil _ _ _ _, Below.refl _ _⟩
  case round =>
    obtain ⟨its, c', k', us, p', n', cap', p4, n4, c4, hn', hn4, hsum, hcap', hcm', rfl, rfl, HF, HC, HO, HI, HR, HB⟩ := hrel
    have HDOT := isDot_any c' k'.cells p' n' cap' wr HO.out.1.2.1 HF.out.2.2 (HC.out.below HB.out)
    by_cases hd : c' = dot
    · have hdt : decide (c' = dot) = true := by simpa using hd
      rw [hdt] at HDOT
      clear hdt
      have hcn := HO.out.1.2.2.1 (by rw [hd]; rfl)
      have hc2 : c'.2.1 = 2 := by rw [hd]; rfl
      obtain ⟨c1, k1, c2, k2, rfl⟩ := two_of (k := k') (by omega)
      clear hc2
      have hokk := HO.out.1.2.2.2.2.1
      have hlen : n' = (k1.cells.length + 1) + (k2.cells.length + 1) + 1 := by have := HF.out.2.2; simp [Fo.cells] at this; omega
      have HNX := next_any (c' :: (Fo.node c1 k1 (.node c2 k2 .nil)).cells) p' n' cap' 1 c1 k1 (c2 :: k2.cells) wr (by have := HF.out.2.2; simp; omega) hn' ⟨hokk.1, hokk.2.1, hokk.2.2.1, hokk.2.2.2.1, hokk.2.2.2.2.1, trivial⟩ (by simp [Fo.cells]) (HC.out.below HB.out)
      obtain ⟨b, o, rfl, hcells⟩ := HC.out (by simp)
      have hC1 : CIn w (some ⟨b, o + 3, none⟩) (itC (c1, k1)) := by
        have := CIn.partI (a := [c']) (m := itC (c1, k1)) (r := c2 :: k2.cells) HC.out (by simp [Fo.cells, itC])
        simpa using this
      have hC2 : CIn w (some ⟨b, o + (1 + 1 + k1.cells.length) * 3, none⟩) (c2 :: k2.cells) := by
        have := CIn.partI (a := c' :: itC (c1, k1)) (m := c2 :: k2.cells) (r := []) HC.out (by simp [Fo.cells, itC])
        simp only [itC, List.length_cons] at this
        rwa [show k1.cells.length + 1 + 1 = 1 + 1 + k1.cells.length by omega] at this
      obtain ⟨en, een⟩ : ∃ en, en = 1 + 1 + k1.cells.length := ⟨_, rfl⟩
      rw [← een] at HNX hC2
      have hen : en + (k2.cells.length + 1) = n' := by omega
      have HNEXT : Hid (splitF c k = ((its ++ [(c1, k1)]) ++ (splitF c2 k2).1, (splitF c2 k2).2) ∧ n4 + 1 = (its ++ [(c1, k1)]).length ∧ n' - en = k2.cells.length + 1 ∧ (itC (c1, k1)).length = en - 1) := ⟨by rw [HF.out.1, hd, splitF_dot]; simp, by simp [HF.out.2.1], by omega, by simp [itC]; omega⟩
      have HOK2 : Hid ((Fo.node c2 k2 .nil).ok ∧ (itsF (its ++ [(c1, k1)])).ok) := ⟨hokk.2.2.2.2.2, by rw [itsF_snoc, Fo.ok_cat]; exact ⟨HO.out.2, hokk.1, hokk.2.1, hokk.2.2.1, hokk.2.2.2.1, hokk.2.2.2.2.1, trivial⟩⟩
      have HITV : Hid (ItV w (its ++ [(c1, k1)]) (us ++ [.slice (some ⟨b, o + 3, none⟩) (en - 1) (cap' - 1)])) := by
        have := HI.out.snoc (c1, k1) (some ⟨b, o + 3, none⟩) (cap' - 1) hC1
        rwa [HNEXT.out.2.2.2] at this
      have HC2 : Hid (CIn w (some ⟨b, o + en * 3, none⟩) (c2 :: k2.cells)) := hC2
      have q1 : ¬ cap' = 1 := by omega
      have q2 : ¬ cap' = en := by omega
      have q3 : (1 : Int) ≤ en := by omega
      have q4 : (en : Int) ≤ n' := by omega
      have q5 : (en : Int) ≤ cap' := by omega
      have q6 : n' - en < n' := by omega
      have q7 : n' - en ≤ cap' - en := by omega
      have q8 : 1 ≤ en := by omega
      have HRW : Hid (wr.ownsRow w.heap.size 32 1 (.slice p4 n4 c4) n4 us) := HR.out
      have hBs : w.heap.size ≤ wr.heap.size := HB.out.size
      have hlt : n4 + 1 ≤ 2000 := by omega
      clear hcells hC1 hC2 hokk hcn HF HC HO HI HR hd een hen hlen
      go_wp2_with fail
      refine HDOT.mono ?_
      rintro e w2 ⟨rfl, hw2⟩
      subst hw2
      go_wp2_with fail
      refine HNX.mono ?_
      rintro e w3 ⟨rfl, hw3⟩
      subst hw3
      go_wp2_with (at_builtin; refine wpList_append_lies _ rfl _ _ 81 rfl w.heap.size 32 i0 (.slice none 0 0) 1 24 Tryz.underlying81 hi hz0 hz1 hz2 rfl (by decide) (.slice p4 n4 c4) n4 us rfl (HRW.out.alloc _) ⟨w3.heap.size, 0, none⟩ 1 1 [.slice (some ⟨b, o + 3, none⟩) (en - 1) (cap' - 1)] rfl rfl (cell_one_new _ _ _) (one_slice _ _ _) (by decide) (by unfold maxLen; omega) (by omega) (by simp; omega) _ rfl ?_; intro g5 cap5 w5 hown5 hgrow5 hat5 hlt5)
      have HO5 : Hid (w5.ownsRow w.heap.size 32 1 (.slice (some ⟨g5, 0, none⟩) (n4 + 1) cap5) (n4 + 1) (us ++ [.slice (some ⟨b, o + 3, none⟩) (en - 1) (cap' - 1)])) := hown5
      have HB5 : Hid (Below w.heap.size w w5) := (HB.out.alloc hBs _).trans ((Below.refl _ _).grown hgrow5 (by simp; omega) (fun k hk => (HRW.out.lt k hk).1))
      clear hown5 hgrow5 hat5
      go_roundw
      case rel => exact ⟨its ++ [(c1, k1)], c2, k2, _, _, n' - en, cap' - en, _, n4 + 1, cap5, by omega, by omega, by omega, by omega, by omega, rfl, rfl, ⟨HNEXT.out.1, HNEXT.out.2.1, HNEXT.out.2.2.1⟩, HC2, HOK2, HITV, HO5, HB5⟩
      case measure => simp [lenOf]; omega
    · have hdf : decide (c' = dot) = false := by simpa using hd
      rw [hdf] at HDOT
      have HL : Hid (L2Out w c k (.returned (.tuple #[.slice p4 n4 c4, .slice p' n' cap'])) wr) := by
        have h1 := HF.out.1
        rw [splitF_other c' k' hd, List.append_nil] at h1
        refine ⟨p4, n4, c4, p', n', cap', us, rfl, by rw [h1]; exact HF.out.2.1, by rw [h1]; simp [itC]; exact HF.out.2.2, HR.out, by rw [h1]; exact HI.out, by rw [h1]; exact HC.out, by rw [h1]; exact HO.out.2, by rw [h1]; exact HO.out.1, HB.out⟩
      clear hdf hd HF HC HO HI HR
      go_wp2_with fail
      refine HDOT.mono ?_
      rintro e w2 ⟨rfl, rfl⟩
      go_wp2_with fail
      go_ret2
      exact HL.out


end Go.Proofs.YtgonpnnlpkjkcaaGreatDoor

namespace Go.Proofs.YtgonpnnlpkjkcaaGreatDoor
open Go Go.RowKit
set_option linter.unusedVariables false

set_option maxRecDepth 100000 in
theorem isCurly_any (c : Cel) (rest : List Cel) (p : Option Addr) (n cap : Nat) (w : World) (hb : Byte c.2.2) (hn : n = rest.length + 1) (hin : CIn w p (c :: rest)) :
    Calls Tryz.prog 42 #[.slice p n cap, .string ⟨#[123, 125]⟩, .int .i64 1] w fun e w' => e = .returned (.bool (decide (c = curly))) ∧ w' = w := by
  obtain ⟨b, o, rfl, hcs⟩ := hin (by simp)
  obtain ⟨p0, q0, d0, d1, d2, d3⟩ := hcs 0 (by simp)
  simp only [List.getD_cons_zero, Nat.zero_mul, Nat.add_zero] at d0 d1 d2 d3
  have hcv := conv_str d3 c.2.2.length q0 rfl 9 Tryz.underlying9
  have hstr := str_eq hb [123, 125]
  have hlt : (0 : Int) < n := by omega
  obtain ⟨str, es⟩ : ∃ str, str = strOfNums c.2.2 := ⟨_, rfl⟩
  rw [← es] at hcv hstr
  obtain ⟨m, em⟩ : ∃ m, m = c.2.2.length := ⟨_, rfl⟩
  rw [← em] at hcv d2
  have HEQ : Hid (c = curly ↔ c.1 = 3 ∧ c.2.1 = 1 ∧ c.2.2 = [123, 125]) := by
    obtain ⟨a, b, d⟩ := c
    simp [curly, Hid]
  clear hcs es em hn d3
  by_cases hs : c.2.2 = [123, 125]
  · have hs' : str.toList = [123, 125] := hstr.2 (by rw [hs]; rfl)
    have HS : Hid (c.2.2 = [123, 125]) := hs
    clear hs hstr
    obtain ⟨c0, e0⟩ : ∃ x, x = c.1 := ⟨_, rfl⟩
    obtain ⟨c1, e1⟩ : ∃ x, x = c.2.1 := ⟨_, rfl⟩
    rw [← e0] at d0
    rw [← e1] at d1
    have HE : Hid (c0 = c.1 ∧ c1 = c.2.1) := ⟨e0, e1⟩
    clear e0 e1
    by_cases h3 : c0 = 3
    · subst h3
      go_enter Tryz.func42, Tryz.ntmps42
      go_wp2_with fail
      go_ret
      exact ⟨ret_bool (by
        rw [Bool.eq_iff_iff]
        simp only [decide_eq_true_iff, beq_iff_eq, HEQ.out]
        have := HE.out
        constructor
        · intro h; exact ⟨this.1.symm, by rw [← this.2]; exact h, HS.out⟩
        · intro h; rw [this.2]; exact h.2.1), rfl⟩
    · have h3' : (c0 == 3) = false := by simpa using h3
      have HD : Hid (decide (c = curly) = false) := by
        show _ = _
        rw [decide_eq_false_iff_not, HEQ.out]
        exact fun h => h3 (by rw [HE.out.1]; exact h.1)
      rw [HD.out]
      clear h3
      go_enter Tryz.func42, Tryz.ntmps42
      go_wp2_with fail
      go_ret
      exact ⟨rfl, rfl⟩
  · have hs' : (str.toList == [123, 125]) = false := by rw [beq_eq_false_iff_ne]; exact fun h => hs (by have := hstr.1 h; simpa using this)
    have HD : Hid (decide (c = curly) = false) := by
      show _ = _
      rw [decide_eq_false_iff_not, HEQ.out]
      exact fun h => hs h.2.2
    rw [HD.out]
    clear hs hstr
    go_enter Tryz.func42, Tryz.ntmps42
    go_wp2_with fail
    go_ret
    exact ⟨rfl, rfl⟩
/-- How a slice of texts lies. -/
def NIn (w : World) (p : Option Addr) (N : List (List Int)) : Prop := 0 < N.length → ∃ b o, p = some ⟨b, o, none⟩ ∧ ∀ i, i < N.length → ∃ q c, w.cell? ⟨b, o + i, none⟩ = some (.slice q (N.getD i []).length c) ∧ BIn w q (N.getD i [])
theorem NIn.below {w W : World} {p : Option Addr} {N : List (List Int)} (h : NIn w p N) (hb : Below w.heap.size w W) : NIn W p N := fun hn => by
  obtain ⟨b, o, e, h⟩ := h hn
  exact ⟨b, o, e, fun i hi => by
    obtain ⟨q, c, h1, h2⟩ := h i hi
    exact ⟨q, c, (hb.cell (World.block_lt_of_cell? _ _ h1)).trans h1, h2.below hb⟩⟩
/-- The writer as it lies in W0. -/
structure WEnv (W0 : World) (ob : Nat) (po : Option Addr) (co : Nat) (T : List Cel) (pn : Option Addr) (cn : Nat) (N : List (List Int)) (q : Bool) : Prop where
  c0 : W0.cell? ⟨ob, 0, none⟩ = some (.slice po T.length co)
  c1 : W0.cell? ⟨ob, 1, none⟩ = some (.slice pn N.length cn)
  c2 : W0.cell? ⟨ob, 2, none⟩ = some (.bool q)
  ops : OIn W0 po T
  opb : ∀ i, i < T.length → Byte (T.getD i Cel.none).2.2 ∧ (T.getD i Cel.none).2.2.length ≤ 100 ∧ (0 ≤ (T.getD i Cel.none).1 ∧ (T.getD i Cel.none).1 ≤ 1200) ∧ 0 ≤ (T.getD i Cel.none).2.1 ∧ (T.getD i Cel.none).2.1 ≤ 6
  olen : T.length ≤ 1000
  names : NIn W0 pn N
  nb : ∀ i, i < N.length → Byte (N.getD i []) ∧ (N.getD i []).length ≤ 1048576
  nlen : N.length ≤ 1048576
theorem WEnv.below {W0 W : World} {ob : Nat} {po : Option Addr} {co : Nat} {T : List Cel} {pn : Option Addr} {cn : Nat} {N : List (List Int)} {q : Bool} (h : WEnv W0 ob po co T pn cn N q) (hb : Below W0.heap.size W0 W) : WEnv W ob po co T pn cn N q := ⟨(hb.cell (World.block_lt_of_cell? _ _ h.c0)).trans h.c0, (hb.cell (World.block_lt_of_cell? _ _ h.c1)).trans h.c1, (hb.cell (World.block_lt_of_cell? _ _ h.c2)).trans h.c2, h.ops.below hb, h.opb, h.olen, h.names.below hb, h.nb, h.nlen⟩
/-- A string is the answer. -/
def StrO (xs : List Int) (w : World) (e : Ending) (w' : World) : Prop := e = .returned (.string (strOfNums xs)) ∧ Below w.heap.size w w'

set_option maxRecDepth 100000 in
theorem atom_any (ob : Nat) (po : Option Addr) (co : Nat) (T : List Cel) (pn : Option Addr) (cn : Nat) (N : List (List Int)) (q : Bool) (p : Option Addr) (l c : Nat) (xs : List Int) (w : World) (hE : WEnv w ob po co T pn cn N q) (hl : l = xs.length) (hb : Byte xs) (hn : xs.length ≤ 1048576) (hx : BIn w p xs) :
    Calls Tryz.prog 41 #[.pointer (some ⟨ob, 0, none⟩), .slice p l c] w (StrO (atomW q xs) w) := by
  have c2 := hE.c2
  have HQ : Hid (Calls Tryz.prog 55 #[.slice p l c] w fun e w' => ∃ p' n' c', e = .returned (.slice p' n' c') ∧ OwnS w' w.heap.size p' n' c' (quoteB xs) ∧ Below w.heap.size w w') := by rw [hl]; exact specQuote_in p c xs w hb hn hx
  have cv := conv_str hx l c hl 9 Tryz.underlying9
  have HS : Hid (∀ W, Below w.heap.size w W → ∀ s, s = strOfNums xs → StrO xs w (.returned (.string s)) W) := fun W hW s es => ⟨by rw [es], hW⟩
  obtain ⟨s, es⟩ : ∃ s, s = strOfNums xs := ⟨_, rfl⟩
  have HES : Hid (s = strOfNums xs) := es
  rw [← es] at cv
  clear es hE hb hx hn hl
  cases q with
  | true =>
    have e : atomW true xs = quoteB xs := rfl
    rw [e]
    clear e cv
    go_enter Tryz.func41, Tryz.ntmps41
    go_wp2_with fail
    refine HQ.out.mono ?_
    rintro e w1 ⟨p1, n1, c1, rfl, ho, hb1⟩
    have cv1 := conv_str ho.bin n1 c1 ho.1 9 Tryz.underlying9
    have HB1 : Hid (Below w.heap.size w w1) := hb1
    obtain ⟨s1, es1⟩ : ∃ s, s = strOfNums (quoteB xs) := ⟨_, rfl⟩
    rw [← es1] at cv1
    have HE1 : Hid (s1 = strOfNums (quoteB xs)) := es1
    clear ho hb1 es1
    go_wp2_with fail
    go_ret
    exact ⟨by rw [HE1.out]; rfl, HB1.out⟩
  | false =>
    have e : atomW false xs = xs := rfl
    rw [e]
    clear e
    go_enter Tryz.func41, Tryz.ntmps41
    go_wp2_with fail
    go_ret
    exact ⟨by rw [HES.out]; rfl, Below.refl _ _⟩

set_option maxRecDepth 100000 in
theorem left_any (op : Cel) (pq : Option Addr) (n c : Nat) (w : World) (h0 : 0 ≤ op.1 ∧ op.1 ≤ 1200) : Calls Tryz.prog 65 #[.agg #[.slice pq n c, .int .i64 op.1, .int .i64 op.2.1]] w fun e w' => e = .returned (.int .i64 (leftP op)) ∧ Below w.heap.size w w' := by
  obtain ⟨h0, h1⟩ := h0
  have HL : Hid (leftP op = if op.2.1 = 2 ∨ op.2.1 = 6 then op.1 else op.1 - 1) := rfl
  obtain ⟨r, er⟩ : ∃ r, r = leftP op := ⟨_, rfl⟩
  rw [← er] at HL ⊢
  clear er
  obtain ⟨x, ex⟩ : ∃ x, x = op.1 := ⟨_, rfl⟩
  obtain ⟨t, et⟩ : ∃ t, t = op.2.1 := ⟨_, rfl⟩
  rw [← ex, ← et] at HL
  rw [← ex] at h0 h1 ⊢
  rw [← et]
  clear ex et
  by_cases g1 : t = 2
  · have e : Hid (r = x) := by show _ = _; rw [HL.out, if_pos (.inl g1)]
    subst g1
    clear HL
    go_enter Tryz.func65, Tryz.ntmps65
    go_wp2_with fail
    go_ret
    exact ⟨by rw [e.out]; rfl, (Below.refl _ _).alloc (Nat.le_refl _) _⟩
  · by_cases g2 : t = 6
    · have e : Hid (r = x) := by show _ = _; rw [HL.out, if_pos (.inr g2)]
      subst g2
      clear HL
      go_enter Tryz.func65, Tryz.ntmps65
      go_wp2_with fail
      go_ret
      exact ⟨by rw [e.out]; rfl, (Below.refl _ _).alloc (Nat.le_refl _) _⟩
    · have e : Hid (r = x - 1) := by show _ = _; rw [HL.out, if_neg (fun h => h.elim g1 g2)]
      have g1' : (t == 2) = false := by simpa using g1
      have g2' : (t == 6) = false := by simpa using g2
      clear HL
      go_enter Tryz.func65, Tryz.ntmps65
      go_wp2_with fail
      go_ret
      exact ⟨by rw [e.out]; rfl, (Below.refl _ _).alloc (Nat.le_refl _) _⟩

set_option maxRecDepth 100000 in
theorem right_any (op : Cel) (pq : Option Addr) (n c : Nat) (w : World) (h0 : 0 ≤ op.1 ∧ op.1 ≤ 1200) : Calls Tryz.prog 61 #[.agg #[.slice pq n c, .int .i64 op.1, .int .i64 op.2.1]] w fun e w' => e = .returned (.int .i64 (rightP op)) ∧ Below w.heap.size w w' := by
  obtain ⟨h0, h1⟩ := h0
  have HL : Hid (rightP op = if op.2.1 = 1 ∨ op.2.1 = 3 then op.1 else op.1 - 1) := rfl
  obtain ⟨r, er⟩ : ∃ r, r = rightP op := ⟨_, rfl⟩
  rw [← er] at HL ⊢
  clear er
  obtain ⟨x, ex⟩ : ∃ x, x = op.1 := ⟨_, rfl⟩
  obtain ⟨t, et⟩ : ∃ t, t = op.2.1 := ⟨_, rfl⟩
  rw [← ex, ← et] at HL
  rw [← ex] at h0 h1 ⊢
  rw [← et]
  clear ex et
  by_cases g1 : t = 1
  · have e : Hid (r = x) := by show _ = _; rw [HL.out, if_pos (.inl g1)]
    subst g1
    clear HL
    go_enter Tryz.func61, Tryz.ntmps61
    go_wp2_with fail
    go_ret
    exact ⟨by rw [e.out]; rfl, (Below.refl _ _).alloc (Nat.le_refl _) _⟩
  · by_cases g2 : t = 3
    · have e : Hid (r = x) := by show _ = _; rw [HL.out, if_pos (.inr g2)]
      subst g2
      clear HL
      go_enter Tryz.func61, Tryz.ntmps61
      go_wp2_with fail
      go_ret
      exact ⟨by rw [e.out]; rfl, (Below.refl _ _).alloc (Nat.le_refl _) _⟩
    · have e : Hid (r = x - 1) := by show _ = _; rw [HL.out, if_neg (fun h => h.elim g1 g2)]
      have g1' : (t == 1) = false := by simpa using g1
      have g2' : (t == 3) = false := by simpa using g2
      clear HL
      go_enter Tryz.func61, Tryz.ntmps61
      go_wp2_with fail
      go_ret
      exact ⟨by rw [e.out]; rfl, (Below.refl _ _).alloc (Nat.le_refl _) _⟩


end Go.Proofs.YtgonpnnlpkjkcaaGreatDoor

