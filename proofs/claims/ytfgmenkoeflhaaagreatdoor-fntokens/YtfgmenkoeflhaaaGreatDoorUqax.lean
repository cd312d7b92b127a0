/- Texts of WtT, WtU, ItW, WtV. Own work of the verifier. -/
import Derived.Test.YtfgmenkoeflhaaaGreatDoorUqav
namespace Go.Proofs.YtfgmenkoeflhaaaGreatDoor
set_option maxRecDepth 100000
open Go Go.RowKit
set_option linter.unusedVariables false
theorem decW_eq {v : Int} (h : v.natAbs < 10 ^ 16) : decW v = decF (16 + 1) v := dec_more 16 3 v h
set_option maxHeartbeats 4000000 in
theorem text_num {W0 : World} {ob : Nat} {po : Option Addr} {co : Nat} {T : List Cel} {pn : Option Addr} {cn : Nat} {N : List (List Int)} {q : Bool} (hE : WEnv W0 ob po co T pn cn N q) (t : Tr) (pr : Int) (tq : Option Addr) (n c : Nat) (w : World) (hw : Below W0.heap.size W0 w) (ht : t.fo.ok) (hl : (itC t).length ≤ 2000) (hin : TW W0 tq n c t) (hk : t.1.1 = 1) :
 Calls Tryz.prog 56 #[.pointer (some ⟨ob, 0, none⟩), .slice tq n c, .int .i64 pr] w (StrO (decW t.1.2.1) w) := by
 have hn0 : 0 < n := by rw [hin.1]; simp [itC]
 have hn0i : (0 : Int) < (n : Int) := by omega
 have hn1 : n = t.2.cells.length + 1 := by rw [hin.1]; simp [itC]
 have hcb := ht.1; simp only [cellB, decide_eq_true_eq] at hcb; obtain ⟨b, oo, rfl, hcs⟩ := (hin.below hw).2.2.2 (by simp [itC]); obtain ⟨tp, tc, d0, d1, d2, d3⟩ := hcs 0 (by simp [itC]); simp only [itC, List.getD_cons_zero, Nat.zero_mul, Nat.add_zero] at d0 d1 d2 d3
 obtain ⟨wa, ewa⟩ : ∃ wa, wa = w.alloc (.cells #[.int .i64 t.1.1, .int .i64 t.1.2.1, .slice tp t.1.2.2.length tc] 78) := ⟨_, rfl⟩
 have HWA : Hid (Below w.heap.size w wa) := by rw [ewa]; exact (Below.refl _ _).alloc (Nat.le_refl _) _
 have HW0 : Hid (Below W0.heap.size W0 w) := hw
 have hv : t.1.2.1.natAbs < 10 ^ 16 := by have : (10 : Nat) ^ 16 = 10000000000000000 := by decide
                                          omega
 have HD := l3dec_any 16 t.1.2.1 wa hv (by decide); rw [decW_eq hv]
 obtain ⟨k1, ek1⟩ : ∃ x, x = t.1.2.1 := ⟨_, rfl⟩
 obtain ⟨l, el⟩ : ∃ x, x = t.1.2.2.length := ⟨_, rfl⟩
 rw [hk, ← ek1, ← el] at ewa; rw [hk] at d0; rw [← ek1] at d1; rw [← el] at d2; rw [← ek1] at HD ⊢; rw [ewa] at HD; clear hcs hin hE ht hl hcb hw d3 ek1 el hk hn1 hv
 go_enter Tryz.func56, Tryz.ntmps56
 go_wp2_with fail; refine HD.mono ?_; rintro e w2 ⟨rfl, hb2⟩; rw [← ewa] at hb2; have HB2 : Hid (Below w.heap.size w w2) := Below.on HWA.out hb2
 obtain ⟨s, es⟩ : ∃ s, s = strOfNums (decF (16 + 1) k1) := ⟨_, rfl⟩
 have HES : Hid (s = strOfNums (decF (16 + 1) k1)) := es; rw [← es]; clear hb2 es; go_wp2_with fail
 all_goals go_ret
 all_goals exact ⟨by rw [← HES.out]; rfl, HB2.out⟩
set_option maxHeartbeats 4000000 in
theorem text_atm {W0 : World} {ob : Nat} {po : Option Addr} {co : Nat} {T : List Cel} {pn : Option Addr} {cn : Nat} {N : List (List Int)} {q : Bool} (hE : WEnv W0 ob po co T pn cn N q) (t : Tr) (pr : Int) (tq : Option Addr) (n c : Nat) (w : World) (hw : Below W0.heap.size W0 w) (ht : t.fo.ok) (hl : (itC t).length ≤ 2000) (hin : TW W0 tq n c t) (hk : t.1.1 = 2) :
 Calls Tryz.prog 56 #[.pointer (some ⟨ob, 0, none⟩), .slice tq n c, .int .i64 pr] w (StrO (atomW q t.1.2.2) w) := by
 have hn0 : 0 < n := by rw [hin.1]; simp [itC]
 have hn0i : (0 : Int) < (n : Int) := by omega
 have hn1 : n = t.2.cells.length + 1 := by rw [hin.1]; simp [itC]
 have hcb := ht.1; simp only [cellB, decide_eq_true_eq] at hcb; obtain ⟨b, oo, rfl, hcs⟩ := (hin.below hw).2.2.2 (by simp [itC]); obtain ⟨tp, tc, d0, d1, d2, d3⟩ := hcs 0 (by simp [itC]); simp only [itC, List.getD_cons_zero, Nat.zero_mul, Nat.add_zero] at d0 d1 d2 d3
 obtain ⟨wa, ewa⟩ : ∃ wa, wa = w.alloc (.cells #[.int .i64 t.1.1, .int .i64 t.1.2.1, .slice tp t.1.2.2.length tc] 78) := ⟨_, rfl⟩
 have HWA : Hid (Below w.heap.size w wa) := by rw [ewa]; exact (Below.refl _ _).alloc (Nat.le_refl _) _
 have HW0 : Hid (Below W0.heap.size W0 w) := hw; obtain ⟨hb, hbl⟩ := text_byte ht; have HD := atom_any ob po co T pn cn N q tp t.1.2.2.length tc t.1.2.2 wa (hE.below (Below.on hw HWA.out)) rfl hb (by omega) (d3.below HWA.out)
 obtain ⟨k1, ek1⟩ : ∃ x, x = t.1.2.1 := ⟨_, rfl⟩
 obtain ⟨l, el⟩ : ∃ x, x = t.1.2.2.length := ⟨_, rfl⟩
 rw [hk, ← ek1, ← el] at ewa; rw [hk] at d0; rw [← ek1] at d1; rw [← el] at d2; rw [← el] at HD; rw [ewa] at HD; clear hcs hin hE ht hl hcb hw d3 ek1 el hk hn1 hb hbl
 go_enter Tryz.func56, Tryz.ntmps56
 go_wp2_with fail; refine HD.mono ?_; rintro e w2 ⟨rfl, hb2⟩; rw [← ewa] at hb2; have HB2 : Hid (Below w.heap.size w w2) := Below.on HWA.out hb2
 obtain ⟨s, es⟩ : ∃ s, s = strOfNums (atomW q t.1.2.2) := ⟨_, rfl⟩
 have HES : Hid (s = strOfNums (atomW q t.1.2.2)) := es; rw [← es]; clear hb2 es; go_wp2_with fail
 all_goals go_ret
 all_goals exact ⟨by rw [← HES.out]; rfl, HB2.out⟩
set_option maxHeartbeats 4000000 in
theorem text_cmp {W0 : World} {ob : Nat} {po : Option Addr} {co : Nat} {T : List Cel} {pn : Option Addr} {cn : Nat} {N : List (List Int)} {q : Bool} (hE : WEnv W0 ob po co T pn cn N q) (R : List Int) (t : Tr) (pr : Int) (tq : Option Addr) (n c : Nat) (w : World) (hw : Below W0.heap.size W0 w) (ht : t.fo.ok) (hl : (itC t).length ≤ 2000) (hin : TW W0 tq n c t) (hk : t.1.1 = 3) (hd : t.1 ≠ dot) (hc : t.1 ≠ curly) (hC : ∀ W, Below W0.heap.size W0 W → Calls Tryz.prog 86 #[.pointer (some ⟨ob, 0, none⟩), .slice tq n c, .int .i64 pr] W (StrO R W)) :
 Calls Tryz.prog 56 #[.pointer (some ⟨ob, 0, none⟩), .slice tq n c, .int .i64 pr] w (StrO (R) w) := by
 have hn0 : 0 < n := by rw [hin.1]; simp [itC]
 have hn0i : (0 : Int) < (n : Int) := by omega
 have hn1 : n = t.2.cells.length + 1 := by rw [hin.1]; simp [itC]
 have hcb := ht.1; simp only [cellB, decide_eq_true_eq] at hcb; obtain ⟨b, oo, rfl, hcs⟩ := (hin.below hw).2.2.2 (by simp [itC]); obtain ⟨tp, tc, d0, d1, d2, d3⟩ := hcs 0 (by simp [itC]); simp only [itC, List.getD_cons_zero, Nat.zero_mul, Nat.add_zero] at d0 d1 d2 d3
 obtain ⟨wa, ewa⟩ : ∃ wa, wa = w.alloc (.cells #[.int .i64 t.1.1, .int .i64 t.1.2.1, .slice tp t.1.2.2.length tc] 78) := ⟨_, rfl⟩
 have HWA : Hid (Below w.heap.size w wa) := by rw [ewa]; exact (Below.refl _ _).alloc (Nat.le_refl _) _
 have HW0 : Hid (Below W0.heap.size W0 w) := hw
 have HDt : Hid (∀ W, Below w.heap.size w W → Calls Tryz.prog 84 #[.slice (some ⟨b, oo, none⟩) n c, .string ⟨#[46]⟩, .int .i64 2] W fun e w' => e = .returned (.bool (decide (t.1 = dot))) ∧ w' = W) := fun W hW => isDot_any t.1 t.2.cells (some ⟨b, oo, none⟩) n c W ht.2.1 hn1 ((hin.below hw).2.2.2.below hW)
 have HCu : Hid (∀ W, Below w.heap.size w W → Calls Tryz.prog 84 #[.slice (some ⟨b, oo, none⟩) n c, .string ⟨#[123, 125]⟩, .int .i64 1] W fun e w' => e = .returned (.bool (decide (t.1 = curly))) ∧ w' = W) := fun W hW => isCurly_any t.1 t.2.cells (some ⟨b, oo, none⟩) n c W ht.2.1 hn1 ((hin.below hw).2.2.2.below hW)
 have HDa := HDt.out wa HWA.out; have HCa := HCu.out wa HWA.out
 have e1 : decide (t.1 = dot) = false := by simpa using hd
 have e2 : decide (t.1 = curly) = false := by simpa using hc
 rw [e1] at HDa; rw [e2] at HCa; have HCC := hC wa (Below.on hw HWA.out)
 obtain ⟨k1, ek1⟩ : ∃ x, x = t.1.2.1 := ⟨_, rfl⟩
 obtain ⟨l, el⟩ : ∃ x, x = t.1.2.2.length := ⟨_, rfl⟩
 rw [hk, ← ek1, ← el] at ewa; rw [hk] at d0; rw [← ek1] at d1; rw [← el] at d2; rw [ewa] at HDa HCa HCC; clear hcs hin hE ht hl hcb hw d3 ek1 el hk hn1 hd hc hC e1 e2 HDt HCu
 go_enter Tryz.func56, Tryz.ntmps56
 go_wp2_with fail; refine HDa.mono ?_; rintro e w9 ⟨rfl, hw9⟩; rw [hw9]; clear hw9 w9 HDa; go_wp2_with fail; refine HCa.mono ?_; rintro e w9 ⟨rfl, hw9⟩; rw [hw9]; clear hw9 w9 HCa; go_wp2_with fail; refine HCC.mono ?_; rintro e w2 ⟨rfl, hb2⟩; rw [← ewa] at hb2; have HB2 : Hid (Below w.heap.size w w2) := Below.on HWA.out hb2
 obtain ⟨s, es⟩ : ∃ s, s = strOfNums (R) := ⟨_, rfl⟩
 have HES : Hid (s = strOfNums (R)) := es; rw [← es]; clear hb2 es; go_wp2_with fail
 all_goals go_ret
 all_goals exact ⟨by rw [← HES.out]; rfl, HB2.out⟩
set_option maxHeartbeats 4000000 in
theorem text_cur {W0 : World} {ob : Nat} {po : Option Addr} {co : Nat} {T : List Cel} {pn : Option Addr} {cn : Nat} {N : List (List Int)} {q : Bool} (hE : WEnv W0 ob po co T pn cn N q) (R : List Int) (hR : R.length ≤ 3000000000) (t : Tr) (pr : Int) (tq : Option Addr) (n c : Nat) (w : World) (hw : Below W0.heap.size W0 w) (ht : t.fo.ok) (hl : (itC t).length ≤ 2000) (hin : TW W0 tq n c t) (hk : t.1.1 = 3) (hc : t.1 = curly) (hC : ∀ kq kn kc W, TW W0 kq kn kc (kidW t 0) → Below W0.heap.size W0 W → Calls Tryz.prog 56 #[.pointer (some ⟨ob, 0, none⟩), .slice kq kn kc, .int .i64 1200] W (StrO R W)) :
 Calls Tryz.prog 56 #[.pointer (some ⟨ob, 0, none⟩), .slice tq n c, .int .i64 pr] w (StrO (123 :: (R ++ [125])) w) := by
 have hn0 : 0 < n := by rw [hin.1]; simp [itC]
 have hn0i : (0 : Int) < (n : Int) := by omega
 have hn1 : n = t.2.cells.length + 1 := by rw [hin.1]; simp [itC]
 have hcb := ht.1; simp only [cellB, decide_eq_true_eq] at hcb; obtain ⟨b, oo, rfl, hcs⟩ := (hin.below hw).2.2.2 (by simp [itC]); obtain ⟨tp, tc, d0, d1, d2, d3⟩ := hcs 0 (by simp [itC]); simp only [itC, List.getD_cons_zero, Nat.zero_mul, Nat.add_zero] at d0 d1 d2 d3
 obtain ⟨wa, ewa⟩ : ∃ wa, wa = w.alloc (.cells #[.int .i64 t.1.1, .int .i64 t.1.2.1, .slice tp t.1.2.2.length tc] 78) := ⟨_, rfl⟩
 have HWA : Hid (Below w.heap.size w wa) := by rw [ewa]; exact (Below.refl _ _).alloc (Nat.le_refl _) _
 have HW0 : Hid (Below W0.heap.size W0 w) := hw
 have HDt : Hid (∀ W, Below w.heap.size w W → Calls Tryz.prog 84 #[.slice (some ⟨b, oo, none⟩) n c, .string ⟨#[46]⟩, .int .i64 2] W fun e w' => e = .returned (.bool (decide (t.1 = dot))) ∧ w' = W) := fun W hW => isDot_any t.1 t.2.cells (some ⟨b, oo, none⟩) n c W ht.2.1 hn1 ((hin.below hw).2.2.2.below hW)
 have HCu : Hid (∀ W, Below w.heap.size w W → Calls Tryz.prog 84 #[.slice (some ⟨b, oo, none⟩) n c, .string ⟨#[123, 125]⟩, .int .i64 1] W fun e w' => e = .returned (.bool (decide (t.1 = curly))) ∧ w' = W) := fun W hW => isCurly_any t.1 t.2.cells (some ⟨b, oo, none⟩) n c W ht.2.1 hn1 ((hin.below hw).2.2.2.below hW)
 have hcnt : t.2.count = 1 := by have h9 := ht.2.2.1 hk; rw [hc] at h9; have e : (curly.2.1 : Int) = 1 := rfl; omega
 have hkid : kidW t 0 = kidW t 0 ∧ t.2.cells = itC (kidW t 0) := by
  refine ⟨rfl, ?_⟩
  cases hk2 : t.2 with
  | nil => rw [hk2] at hcnt; simp [Fo.count] at hcnt
  | node c1 k1 r =>
    cases r with
    | nil => simp [kidW, hk2, trs, itC, Fo.cells]
    | node _ _ _ => rw [hk2] at hcnt; simp [Fo.count] at hcnt
 have htw : TW W0 (some ⟨b, oo + 3, none⟩) (n - 1) (c - 1) (kidW t 0) := by
  refine ⟨by rw [← hkid.2, hn1]; omega, by have := hin.2.1; omega, by have := hin.2.2.1; omega, ?_⟩; have h9 := CIn.partI hin.2.2.2 (a := [t.1]) (m := itC (kidW t 0)) (r := []) (by rw [← hkid.2]; simp [itC])
  simpa using h9
 have HDa := HDt.out wa HWA.out; have HCa := HCu.out wa HWA.out
 have e1 : decide (t.1 = dot) = false := by rw [decide_eq_false_iff_not, hc]; simp [curly, dot]
 have e2 : decide (t.1 = curly) = true := by simpa using hc
 rw [e1] at HDa; rw [e2] at HCa; have HCC := hC _ _ _ wa htw (Below.on hw HWA.out)
 have hn2 : 1 ≤ n := by omega
 have hnc : n ≤ c := hin.2.1; have hcc : c ≤ 9223372036854775807 := hin.2.2.1
 have hn3 : 2 ≤ n := by have h9 : (itC (kidW t 0)).length = n - 1 := htw.1.symm; have : 1 ≤ (itC (kidW t 0)).length := by simp [itC]
                        omega
 have hc1 : 1 < c := by omega
 have hc2 : ¬ c ≤ 1 := by omega
 have hc3 : ¬ c = 1 := by omega
 have hc4 : ¬ c - 1 = 0 := by omega
 have hc5 : (1 : Int) < (c : Int) := by omega
 have hc6 : ¬ (c : Int) - 1 = 0 := by omega
 obtain ⟨k1, ek1⟩ : ∃ x, x = t.1.2.1 := ⟨_, rfl⟩
 obtain ⟨l, el⟩ : ∃ x, x = t.1.2.2.length := ⟨_, rfl⟩
 rw [hk, ← ek1, ← el] at ewa; rw [hk] at d0; rw [← ek1] at d1; rw [← el] at d2; rw [ewa] at HDa HCa HCC; clear hcs hin hE ht hl hcb hw d3 ek1 el hk hn1 hc hC e1 e2 HDt HCu hcnt hkid htw
 go_enter Tryz.func56, Tryz.ntmps56
 go_wp2_with fail; refine HDa.mono ?_; rintro e w9 ⟨rfl, hw9⟩; rw [hw9]; clear hw9 w9 HDa; go_wp2_with fail; refine HCa.mono ?_; rintro e w9 ⟨rfl, hw9⟩; rw [hw9]; clear hw9 w9 HCa; go_wp2_with fail; refine HCC.mono ?_; rintro e w2 ⟨rfl, hb2⟩; rw [← ewa] at hb2; have HB2 : Hid (Below w.heap.size w w2) := Below.on HWA.out hb2
 obtain ⟨s, es⟩ : ∃ s, s = strOfNums (R) := ⟨_, rfl⟩
 have HES : Hid (s = strOfNums (R)) := es; rw [← es]
 have hss : s.size ≤ 3000000000 := by rw [es, strOfNums_size]; exact hR
 have hz1 : ((⟨#[123]⟩ : ByteArray) ++ s).size ≤ 3000000001 := by rw [ByteArray.size_append]; have : (⟨#[123]⟩ : ByteArray).size = 1 := rfl; omega
 have HEE : Hid ((⟨#[123]⟩ : ByteArray) ++ s ++ ⟨#[125]⟩ = strOfNums (123 :: (R ++ [125]))) := by
  have h1 : (⟨#[123]⟩ : ByteArray) = strOfNums [123] := rfl; have h2 : (⟨#[125]⟩ : ByteArray) = strOfNums [125] := rfl
  show _ = _
  rw [h1, h2, es, str_app, str_app]
  rfl
 clear hb2 es; go_wp2_with fail
 all_goals go_ret
 all_goals exact ⟨by rw [← HEE.out]; rfl, HB2.out⟩
def ItVW (w : World) (its : List (Cel × Fo)) (us : List Value) : Prop := us.length = its.length ∧ ∀ i (h : i < its.length), ∃ q c, us[i]? = some (.slice q (itC its[i]).length c) ∧ CIn w q (itC its[i]) ∧ (itC its[i]).length ≤ c ∧ c ≤ 9223372036854775807
theorem ItVW.snoc {w : World} {its : List (Cel × Fo)} {us : List Value} (h : ItVW w its us) (x : Cel × Fo) (q : Option Addr) (c : Nat) (hq : CIn w q (itC x)) (hc1 : (itC x).length ≤ c) (hc2 : c ≤ 9223372036854775807) : ItVW w (its ++ [x]) (us ++ [.slice q (itC x).length c]) := by
 refine ⟨by simp [h.1], fun i hi => ?_⟩
 by_cases e : i < its.length
 ·obtain ⟨q', c', h1, h2⟩ := h.2 i e
  refine ⟨q', c', ?_, ?_⟩
  ·rw [List.getElem?_append_left (by rw [h.1]; exact e), h1, List.getElem_append_left e]
  ·rw [List.getElem_append_left e]; exact h2
 ·have e' : i = its.length := by simp at hi; omega
  subst e'; refine ⟨q, c, ?_, ?_⟩
  ·rw [List.getElem?_append_right (by rw [h.1]; exact Nat.le_refl _), h.1]; simp
  ·simp only [List.getElem_append_right (Nat.le_refl _), Nat.sub_self, List.getElem_cons_zero]; exact ⟨hq, hc1, hc2⟩
def L2OutW (w : World) (c : Cel) (k : Fo) (e : Ending) (w' : World) : Prop :=
 ∃ p n cp q m cq us, e = .returned (.tuple #[.slice p n cp, .slice q m cq]) ∧ n = (splitF c k).1.length ∧ m = (itC (splitF c k).2).length ∧ w'.ownsRow w.heap.size 46 1 (.slice p n cp) n us ∧ ItVW w (splitF c k).1 us ∧ CIn w q (itC (splitF c k).2) ∧ (m ≤ cq ∧ cq ≤ 9223372036854775807) ∧
   (itsF (splitF c k).1).ok ∧ (Fo.node (splitF c k).2.1 (splitF c k).2.2 .nil).ok ∧ Below w.heap.size w w'
set_option maxHeartbeats 1000000 in
theorem l2itemsW (c : Cel) (k : Fo) (p : Option Addr) (n cap : Nat) (w : World) (hok : (Fo.node c k .nil).ok) (hn : n = k.cells.length + 1) (hl : n ≤ 2000) (hc : n ≤ cap) (hm : cap ≤ 9223372036854775807) (hin : CIn w p (c :: k.cells)) :
 Calls Tryz.prog 85 #[.slice p n cap] w (L2OutW w c k) := by
 have HIN : Hid (CIn w p (c :: k.cells)) := hin; have HOK : Hid (Fo.node c k .nil).ok := hok; have HN : Hid (n = k.cells.length + 1) := hn; clear hin hok hn; obtain ⟨i0, hi, hz0, hz1, hz2⟩ := info_parts infoCells
 go_enter Tryz.func85, Tryz.ntmps85
 go_wp2_with fail
 go_loopw [0, 4] (fun t s wr => ∃ (its : List (Cel × Fo)) (c' : Cel) (k' : Fo) (us : List Value) (p' : Option Addr) (n' cap' : Nat) (p4 : Option Addr) (n4 c4 : Nat), n' ≤ 2000 ∧ n4 ≤ 2000 ∧ n4 + n' ≤ 2000 ∧ n' ≤ cap' ∧ cap' ≤ 9223372036854775807 ∧ t = .slice p' n' cap' ∧ s = .slice p4 n4 c4 ∧ Hid (splitF c k = (its ++ (splitF c' k').1, (splitF c' k').2) ∧ n4 = its.length ∧ n' = k'.cells.length + 1) ∧
  Hid (CIn w p' (c' :: k'.cells)) ∧ Hid ((Fo.node c' k' .nil).ok ∧ (itsF its).ok) ∧ Hid (ItVW w its us) ∧ Hid (wr.ownsRow w.heap.size 46 1 (.slice p4 n4 c4) n4 us) ∧ Hid (Below w.heap.size w wr)) (fun t _ _ => lenOf t)
 case atStart => exact ⟨[], c, k, [], p, n, cap, none, 0, 0, hl, by decide, by omega, hc, hm, rfl, rfl, ⟨rfl, rfl, HN.out⟩, HIN, ⟨HOK.out, trivial⟩, ⟨rfl, fun i h => by simp at h⟩, World.ownsRow_nil _ _ _ _, Below.refl _ _⟩
 case round =>
  obtain ⟨its, c', k', us, p', n', cap', p4, n4, c4, hn', hn4, hsum, hcap', hcm', rfl, rfl, HF, HC, HO, HI, HR, HB⟩ := hrel; have HDOT := isDot_any c' k'.cells p' n' cap' wr HO.out.1.2.1 HF.out.2.2 (HC.out.below HB.out)
  by_cases hd : c' = dot
  ·have hdt : decide (c' = dot) = true := by simpa using hd
   rw [hdt] at HDOT; clear hdt; have hcn := HO.out.1.2.2.1 (by rw [hd]; rfl)
   have hc2 : c'.2.1 = 2 := by rw [hd]; rfl
   obtain ⟨c1, k1, c2, k2, rfl⟩ := two_of (k := k') (by omega); clear hc2; have hokk := HO.out.1.2.2.2.2.1
   have hlen : n' = (k1.cells.length + 1) + (k2.cells.length + 1) + 1 := by have := HF.out.2.2; simp [Fo.cells] at this; omega
   have HNX := nextI_any (c' :: (Fo.node c1 k1 (.node c2 k2 .nil)).cells) p' n' cap' 1 c1 k1 (c2 :: k2.cells) wr (by have := HF.out.2.2; simp; omega) hn' ⟨hokk.1, hokk.2.1, hokk.2.2.1, hokk.2.2.2.1, hokk.2.2.2.2.1, trivial⟩ (by simp [Fo.cells]) (HC.out.below HB.out); obtain ⟨b, o, rfl, hcells⟩ := HC.out (by simp)
   have hC1 : CIn w (some ⟨b, o + 3, none⟩) (itC (c1, k1)) := by
    have := CIn.partI (a := [c']) (m := itC (c1, k1)) (r := c2 :: k2.cells) HC.out (by simp [Fo.cells, itC])
    simpa using this
   have hC2 : CIn w (some ⟨b, o + (1 + 1 + k1.cells.length) * 3, none⟩) (c2 :: k2.cells) := by
    have := CIn.partI (a := c' :: itC (c1, k1)) (m := c2 :: k2.cells) (r := []) HC.out (by simp [Fo.cells, itC]); simp only [itC, List.length_cons] at this
    rwa [show k1.cells.length + 1 + 1 = 1 + 1 + k1.cells.length by omega] at this
   obtain ⟨en, een⟩ : ∃ en, en = 1 + 1 + k1.cells.length := ⟨_, rfl⟩
   rw [← een] at HNX hC2
   have hen : en + (k2.cells.length + 1) = n' := by omega
   have HNEXT : Hid (splitF c k = ((its ++ [(c1, k1)]) ++ (splitF c2 k2).1, (splitF c2 k2).2) ∧ n4 + 1 = (its ++ [(c1, k1)]).length ∧ n' - en = k2.cells.length + 1 ∧ (itC (c1, k1)).length = en - 1) := ⟨by rw [HF.out.1, hd, splitF_dot]; simp, by simp [HF.out.2.1], by omega, by simp [itC]; omega⟩
   have HOK2 : Hid ((Fo.node c2 k2 .nil).ok ∧ (itsF (its ++ [(c1, k1)])).ok) := ⟨hokk.2.2.2.2.2, by rw [itsF_snoc, Fo.ok_cat]; exact ⟨HO.out.2, hokk.1, hokk.2.1, hokk.2.2.1, hokk.2.2.2.1, hokk.2.2.2.2.1, trivial⟩⟩
   have HITV : Hid (ItVW w (its ++ [(c1, k1)]) (us ++ [.slice (some ⟨b, o + 3, none⟩) (en - 1) (cap' - 1)])) := by
    have := HI.out.snoc (c1, k1) (some ⟨b, o + 3, none⟩) (cap' - 1) hC1 (by rw [HNEXT.out.2.2.2]; omega) (by omega)
    rwa [HNEXT.out.2.2.2] at this
   have HC2 : Hid (CIn w (some ⟨b, o + en * 3, none⟩) (c2 :: k2.cells)) := hC2
   have q1 : ¬ cap' = 1 := by omega
   have q2 : ¬ cap' = en := by omega
   have q3 : (1 : Int) ≤ en := by omega
   have q4 : (en : Int) ≤ n' := by omega
   have q5 : (en : Int) ≤ cap' := by omega
   have q6 : n' - en < n' := by omega
   have q7 : n' - en ≤ cap' - en := by omega
   have q8 : 1 ≤ en := by omega
   have HRW : Hid (wr.ownsRow w.heap.size 46 1 (.slice p4 n4 c4) n4 us) := HR.out; have hBs : w.heap.size ≤ wr.heap.size := HB.out.size
   have hlt : n4 + 1 ≤ 2000 := by omega
   clear hcells hC1 hC2 hokk hcn HF HC HO HI HR hd een hen hlen; go_wp2_with fail; refine HDOT.mono ?_; rintro e w2 ⟨rfl, hw2⟩; subst hw2; go_wp2_with fail; refine HNX.mono ?_; rintro e w3 ⟨rfl, hw3⟩; subst hw3; go_wp2_with (at_builtin; refine wpList_append_lies _ rfl _ _ 79 rfl w.heap.size 46 i0 (.slice none 0 0) 1 24 Tryz.underlying79 hi hz0 hz1 hz2 rfl (by decide) (.slice p4 n4 c4) n4 us rfl (HRW.out.alloc _) ⟨w3.heap.size, 0, none⟩ 1 1 [.slice (some ⟨b, o + 3, none⟩) (en - 1) (cap' - 1)] rfl rfl (cell_one_new _ _ _) (one_slice _ _ _) (by decide) (by unfold maxLen; omega) (by omega) (by simp; omega) _ rfl ?_; intro g5 cap5 w5 hown5 hgrow5 hat5 hlt5); have HO5 : Hid (w5.ownsRow w.heap.size 46 1 (.slice (some ⟨g5, 0, none⟩) (n4 + 1) cap5) (n4 + 1) (us ++ [.slice (some ⟨b, o + 3, none⟩) (en - 1) (cap' - 1)])) := hown5; have HB5 : Hid (Below w.heap.size w w5) := (HB.out.alloc hBs _).trans ((Below.refl _ _).grown hgrow5 (by simp; omega) (fun k hk => (HRW.out.lt k hk).1))
   clear hown5 hgrow5 hat5; go_roundw
   case rel => exact ⟨its ++ [(c1, k1)], c2, k2, _, _, n' - en, cap' - en, _, n4 + 1, cap5, by omega, by omega, by omega, by omega, by omega, rfl, rfl, ⟨HNEXT.out.1, HNEXT.out.2.1, HNEXT.out.2.2.1⟩, HC2, HOK2, HITV, HO5, HB5⟩
   case measure => simp [lenOf]; omega
  ·have hdf : decide (c' = dot) = false := by simpa using hd
   rw [hdf] at HDOT
   have HL : Hid (L2OutW w c k (.returned (.tuple #[.slice p4 n4 c4, .slice p' n' cap'])) wr) := by
    have h1 := HF.out.1; rw [splitF_other c' k' hd, List.append_nil] at h1; refine ⟨p4, n4, c4, p', n', cap', us, rfl, by rw [h1]; exact HF.out.2.1, by rw [h1]; simp [itC]; exact HF.out.2.2, HR.out, by rw [h1]; exact HI.out, by rw [h1]; exact HC.out, ⟨hcap', hcm'⟩, by rw [h1]; exact HO.out.2, by rw [h1]; exact HO.out.1, HB.out⟩
   clear hdf hd HF HC HO HI HR; go_wp2_with fail; refine HDOT.mono ?_; rintro e w2 ⟨rfl, rfl⟩; go_wp2_with fail
   go_ret2
   exact HL.out
set_option maxHeartbeats 4000000 in
theorem text_lst {W0 : World} {ob : Nat} {po : Option Addr} {co : Nat} {T : List Cel} {pn : Option Addr} {cn : Nat} {N : List (List Int)} {q : Bool} (hE : WEnv W0 ob po co T pn cn N q) (rec : Tr → Int → List Int) (t : Tr) (pr : Int) (tq : Option Addr) (n c : Nat) (w : World) (hw : Below W0.heap.size W0 w) (ht : t.fo.ok) (hl : (itC t).length ≤ 2000) (hin : TW W0 tq n c t) (hk : t.1.1 = 3) (hd : t.1 = dot) (hg : ∀ k, (k ∈ (splitF t.1 t.2).1 ∨ k = (splitF t.1 t.2).2) → (rec k 999).length ≤ 1100000 * (itC k).length) (hC : ∀ V, Below W0.heap.size W0 V → ∀ k, (k ∈ (splitF t.1 t.2).1 ∨ k = (splitF t.1 t.2).2) → ∀ kq kn kc W, TW V kq kn kc k → Below V.heap.size V W → Calls Tryz.prog 56 #[.pointer (some ⟨ob, 0, none⟩), .slice kq kn kc, .int .i64 999] W (StrO (rec k 999) W)) :
 Calls Tryz.prog 56 #[.pointer (some ⟨ob, 0, none⟩), .slice tq n c, .int .i64 pr] w (StrO (listW rec t) w) := by
 have hn0 : 0 < n := by rw [hin.1]; simp [itC]
 have hn0i : (0 : Int) < (n : Int) := by omega
 have hn1 : n = t.2.cells.length + 1 := by rw [hin.1]; simp [itC]
 have hcb := ht.1; simp only [cellB, decide_eq_true_eq] at hcb; obtain ⟨b, oo, rfl, hcs⟩ := (hin.below hw).2.2.2 (by simp [itC]); obtain ⟨tp, tc, d0, d1, d2, d3⟩ := hcs 0 (by simp [itC]); simp only [itC, List.getD_cons_zero, Nat.zero_mul, Nat.add_zero] at d0 d1 d2 d3
 obtain ⟨wa, ewa⟩ : ∃ wa, wa = w.alloc (.cells #[.int .i64 t.1.1, .int .i64 t.1.2.1, .slice tp t.1.2.2.length tc] 78) := ⟨_, rfl⟩
 have HWA : Hid (Below w.heap.size w wa) := by rw [ewa]; exact (Below.refl _ _).alloc (Nat.le_refl _) _
 have HW0 : Hid (Below W0.heap.size W0 w) := hw
 have HDt : Hid (∀ W, Below w.heap.size w W → Calls Tryz.prog 84 #[.slice (some ⟨b, oo, none⟩) n c, .string ⟨#[46]⟩, .int .i64 2] W fun e w' => e = .returned (.bool (decide (t.1 = dot))) ∧ w' = W) := fun W hW => isDot_any t.1 t.2.cells (some ⟨b, oo, none⟩) n c W ht.2.1 hn1 ((hin.below hw).2.2.2.below hW)
 have HCu : Hid (∀ W, Below w.heap.size w W → Calls Tryz.prog 84 #[.slice (some ⟨b, oo, none⟩) n c, .string ⟨#[123, 125]⟩, .int .i64 1] W fun e w' => e = .returned (.bool (decide (t.1 = curly))) ∧ w' = W) := fun W hW => isCurly_any t.1 t.2.cells (some ⟨b, oo, none⟩) n c W ht.2.1 hn1 ((hin.below hw).2.2.2.below hW)
 have HDa := HDt.out wa HWA.out
 have e1 : decide (t.1 = dot) = true := by simpa using hd
 rw [e1] at HDa; have HLI := l2itemsW t.1 t.2 (some ⟨b, oo, none⟩) n c wa ht hn1 (by rw [hin.1]; exact hl) hin.2.1 hin.2.2.1 ((hin.below (Below.on hw HWA.out)).2.2.2)
 obtain ⟨I, eI⟩ : ∃ I, I = (splitF t.1 t.2).1 := ⟨_, rfl⟩
 obtain ⟨E, eE⟩ : ∃ E, E = (splitF t.1 t.2).2 := ⟨_, rfl⟩
 have hsz := split_sizeW t.2.cells.length t.1 t.2 (Nat.le_refl _) ht; rw [← eI, ← eE] at hg hC hsz
 have hlt : t.2.cells.length + 1 ≤ 2000 := by simp only [itC, List.length_cons] at hl; exact hl
 have hsumI : (I.map fun x => (itC x).length).sum ≤ 2000 := by have := hsz.1; omega
 have hIl : I.length ≤ 2000 := by have := hsz.1; omega
 obtain ⟨L, eL⟩ : ∃ L, L = I.map (rec · 999) := ⟨_, rfl⟩
 have HJB : Hid (∀ j, (joinW (L.take j)).length ≤ 2200002000) := fun j => by rw [eL]; exact join_bound rec I 999 (fun k hk => hg k (.inl hk)) hsumI j
 have hEl : (rec E 999).length ≤ 2200000000 := by have := hg E (.inr rfl); have := hsz.1; omega
 have HLW : Hid (listW rec t = 91 :: (joinW L ++ ((if E.1 = nilC then [] else 124 :: rec E 999) ++ [93]))) := by show _ = _; unfold listW; rw [← eI, ← eE, eL]
 have HO : Hid (∀ p n' cp qq m cq w', L2OutW wa t.1 t.2 (.returned (.tuple #[.slice p n' cp, .slice qq m cq])) w' → n' = L.length ∧ Below wa.heap.size wa w' ∧ (∀ j, j < n' → ∃ g pq nq cq' K, p = some ⟨g, 0, none⟩ ∧ L[j]? = some K ∧ K.length ≤ 2200000000 ∧ ∀ W, Below w'.heap.size w' W → W.cell? ⟨g, j, none⟩ = some (.slice pq nq cq') ∧ Calls Tryz.prog 56 #[.pointer (some ⟨ob, 0, none⟩), .slice pq nq cq', .int .i64 999] W (StrO K W)) ∧ (∀ W, Below w'.heap.size w' W → Calls Tryz.prog 84 #[.slice qq m cq, .string ⟨#[91, 93]⟩, .int .i64 0] W (fun e w'' => e = .returned (.bool (decide (E.1 = nilC))) ∧ w'' = W) ∧ Calls Tryz.prog 56 #[.pointer (some ⟨ob, 0, none⟩), .slice qq m cq, .int .i64 999] W (StrO (rec E 999) W))) := fun p n' cp qq m cq w' h => by
  obtain ⟨p1, n1, cp1, q1, m1, cq1, us1, he, hn', hm', hrow, hiv, hend, hcc, hio, heo, hbb⟩ := h
  cases he
  rw [← eI] at hn' hiv hio; rw [← eE] at hm' hend heo; have hb0 : Below W0.heap.size W0 w' := Below.on (Below.on hw HWA.out) hbb; refine ⟨by rw [eL, List.length_map]; exact hn', hbb, fun j hj => ?_, fun W hW => ⟨?_, ?_⟩⟩
  ·obtain ⟨g, cap, hv, _, _⟩ := hrow.form (by omega)
   cases hv
   have hjI : j < I.length := by omega
   obtain ⟨pq, cq', h1, h2, h3, h4⟩ := hiv.2 j hjI; have hmem : I[j] ∈ I := List.getElem_mem _; have hcell := hrow.cellAt j (by omega); rw [h1] at hcell; refine ⟨g, pq, (itC I[j]).length, cq', rec I[j] 999, rfl, by rw [eL, List.getElem?_map, List.getElem?_eq_getElem hjI]; rfl, ?_, fun W hW => ⟨(hW.cell (World.block_lt_of_cell? _ _ hcell)).trans hcell, ?_⟩⟩
   ·have g1 := hg _ (.inl hmem)
    have g2 : (itC I[j]).length ≤ (I.map fun x => (itC x).length).sum := mem_sum _ _ (List.mem_map.2 ⟨_, hmem, rfl⟩)
    omega
   ·exact hC w' hb0 _ (.inl hmem) pq _ cq' W ⟨rfl, h3, h4, h2.below hbb⟩ hW
  ·exact isNil_any E.1 E.2.cells qq m cq W heo.2.1 heo.1 (by rw [hm']; simp [itC]) ((hend.below hbb).below hW)
  ·exact hC w' hb0 E (.inr rfl) qq m cq W ⟨hm', hcc.1, hcc.2, hend.below hbb⟩ hW
 have HLI2 : Hid (Calls Tryz.prog 85 #[.slice (some ⟨b, oo, none⟩) n c] wa fun e w' => ∃ p n' cp qq m cq, e = .returned (.tuple #[.slice p n' cp, .slice qq m cq]) ∧ n' = L.length ∧ Hid (Below wa.heap.size wa w') ∧ Hid (∀ j, j < n' → ∃ g pq nq cq' K, p = some ⟨g, 0, none⟩ ∧ L[j]? = some K ∧ K.length ≤ 2200000000 ∧ ∀ W, Below w'.heap.size w' W → W.cell? ⟨g, j, none⟩ = some (.slice pq nq cq') ∧ Calls Tryz.prog 56 #[.pointer (some ⟨ob, 0, none⟩), .slice pq nq cq', .int .i64 999] W (StrO K W)) ∧ Hid (∀ W, Below w'.heap.size w' W → Calls Tryz.prog 84 #[.slice qq m cq, .string ⟨#[91, 93]⟩, .int .i64 0] W (fun e w'' => e = .returned (.bool (decide (E.1 = nilC))) ∧ w'' = W) ∧ Calls Tryz.prog 56 #[.pointer (some ⟨ob, 0, none⟩), .slice qq m cq, .int .i64 999] W (StrO (rec E 999) W))) := HLI.mono fun e w' h => by
  have h' := h; obtain ⟨p1, n1, cp1, q1, m1, cq1, us1, he, _⟩ := h'; subst he; obtain ⟨a1, a2, a3, a4⟩ := HO.out p1 n1 cp1 q1 m1 cq1 w' h; exact ⟨p1, n1, cp1, q1, m1, cq1, rfl, a1, a2, a3, a4⟩
 have hLl : L.length ≤ 2000 := by rw [eL, List.length_map]; exact hIl
 obtain ⟨LW, eLW⟩ : ∃ x, x = listW rec t := ⟨_, rfl⟩
 rw [← eLW] at HLW ⊢
 obtain ⟨RE, eRE⟩ : ∃ x, x = rec E 999 := ⟨_, rfl⟩
 rw [← eRE] at HLI2 HLW hEl; have HLA := HLI2.out
 obtain ⟨k1, ek1⟩ : ∃ x, x = t.1.2.1 := ⟨_, rfl⟩
 obtain ⟨l, el⟩ : ∃ x, x = t.1.2.2.length := ⟨_, rfl⟩
 rw [hk, ← ek1, ← el] at ewa; rw [hk] at d0; rw [← ek1] at d1; rw [← el] at d2; rw [ewa] at HDa HLA; clear hcs hin hE ht hl hcb hw d3 ek1 el hk hn1 hd hg hC e1 HDt HCu hsz hlt hsumI hIl HO HLI HLI2 eL eI eE eLW eRE
 go_enter Tryz.func56, Tryz.ntmps56
 go_wp2_with fail; refine HDa.mono ?_; rintro e w9 ⟨rfl, hw9⟩; rw [hw9]; clear hw9 w9 HDa; go_wp2_with fail; refine HLA.mono ?_; rintro e w3 ⟨ip, am, ic, qq, mm, cqq, rfl, hLm, HB3a, HAR, HEND⟩; rw [← ewa] at HB3a; have HB3 : Hid (Below w.heap.size w w3) := Below.on HWA.out HB3a.out
 have ham : am ≤ 2000 := by omega
 clear HLA HB3a; have hz91 : (⟨#[91]⟩ : ByteArray).size = 1 := rfl; have hz93 : (⟨#[93]⟩ : ByteArray).size = 1 := rfl; have hz124 : (⟨#[124]⟩ : ByteArray).size = 1 := rfl; have HS0 : Hid ((⟨#[91]⟩ : ByteArray) = strOfNums ([91] ++ joinW (L.take 0))) := rfl; go_wp2_with fail
 go_loopw [10, 11] (fun ov i wr => ∃ (j : Nat) (so : ByteArray), j ≤ am ∧ so.size ≤ 2200003000 ∧ ov = .string so ∧ i = .int .i64 j ∧ Hid (so = strOfNums ([91] ++ joinW (L.take j))) ∧ Hid (Below w3.heap.size w3 wr)) (fun _ i _ => am - (intOf i).toNat)
 case atStart => exact ⟨0, _, Nat.zero_le _, by omega, rfl, rfl, HS0, Below.refl _ _⟩
 case round =>
  obtain ⟨j, so, hj, hsz, rfl, rfl, HSO, HB⟩ := hrel
  by_cases hlt : j < am
  ·obtain ⟨g, pq, nq, cq, K, rfl, hK, hKl, hrow⟩ := HAR.out j hlt
   obtain ⟨r1, HK⟩ := hrow wr HB.out
   have hjL : j < L.length := by rw [← hLm]; exact hlt
   have eK : L[j] = K := by rw [List.getElem?_eq_getElem hjL] at hK; exact Option.some.inj hK
   have hjt := join_take L j hjL; rw [eK] at hjt
   obtain ⟨sk, esk⟩ : ∃ sk, sk = strOfNums K := ⟨_, rfl⟩
   have hsk : sk.size ≤ 2200000000 := by rw [esk, strOfNums_size]; exact hKl
   have HSK : Hid (sk = strOfNums K) := esk
   have HNX : Hid (∀ x : ByteArray, x = strOfNums ([91] ++ joinW (L.take (j + 1))) → x.size ≤ 2200003000) := fun x e => by rw [e, strOfNums_size]; have := HJB.out (j + 1); simp only [List.length_append, List.length_cons, List.length_nil]; omega
   by_cases hj0 : j = 0
   ·subst hj0
    have HE2 : Hid (so ++ sk = strOfNums ([91] ++ joinW (L.take (0 + 1)))) := by show _ = _; rw [HSO.out, HSK.out, str_app, hjt]; simp [joinW]
    have hz2 := HNX.out _ HE2.out; clear hjt eK hK esk hrow hKl; go_wp2_with fail; refine HK.mono ?_; rintro e w4 ⟨rfl, hb4⟩; rw [← HSK.out]; have HB4 : Hid (Below w3.heap.size w3 w4) := Below.on HB.out hb4; clear hb4 HK r1; go_wp2_with fail
    all_goals go_roundw
    all_goals first
     | (simp [intOf]; omega)
     | exact ⟨0 + 1, _, by omega, hz2, rfl, by go_num, HE2, HB4⟩
   ·have hjp : (0 : Int) < (j : Int) := by omega
    have hsc : (so ++ ⟨#[44]⟩ : ByteArray).size ≤ 2200003001 := by rw [ByteArray.size_append]; have : (⟨#[44]⟩ : ByteArray).size = 1 := rfl; omega
    have HE2 : Hid (so ++ ⟨#[44]⟩ ++ sk = strOfNums ([91] ++ joinW (L.take (j + 1)))) := by
     have h2 : (⟨#[44]⟩ : ByteArray) = strOfNums [44] := rfl
     show _ = _
     rw [HSO.out, HSK.out, h2, str_app, str_app, hjt, if_neg hj0]
     simp
    have hz2 := HNX.out _ HE2.out; clear hjt eK hK esk hrow hKl hj0; go_wp2_with fail
    all_goals refine HK.mono ?_
    all_goals rintro e w4 ⟨rfl, hb4⟩
    all_goals rw [← HSK.out]
    all_goals have HB4 : Hid (Below w3.heap.size w3 w4) := Below.on HB.out hb4
    all_goals clear hb4 HK r1
    all_goals go_wp2_with fail
    all_goals go_roundw
    all_goals first
     | (simp [intOf]; omega)
     | exact ⟨j + 1, _, by omega, hz2, rfl, by go_num, HE2, HB4⟩
  ·obtain rfl : j = am := by omega
   rw [hLm, List.take_length] at HSO; obtain ⟨HNI, HTE⟩ := HEND.out wr HB.out
   by_cases hnil : E.1 = nilC
   ·have e5 : decide (E.1 = nilC) = true := by simpa using hnil
    rw [e5] at HNI
    have HF : Hid (so ++ ⟨#[93]⟩ = strOfNums LW) := by
     have h2 : (⟨#[93]⟩ : ByteArray) = strOfNums [93] := rfl
     show _ = _
     rw [HSO.out, h2, str_app, HLW.out, if_pos hnil]; simp
    clear e5 hnil HTE; go_wp2_with fail; refine HNI.mono ?_; rintro e w9 ⟨rfl, hw9⟩; rw [hw9]; clear hw9 w9 HNI; go_wp2_with fail
    all_goals go_ret
    all_goals exact ⟨by rw [← HF.out]; rfl, Below.on HB3.out HB.out⟩
   ·have e5 : decide (E.1 = nilC) = false := by simpa using hnil
    rw [e5] at HNI
    obtain ⟨sE, esE⟩ : ∃ s, s = strOfNums RE := ⟨_, rfl⟩
    have hsE : sE.size ≤ 2200000000 := by rw [esE, strOfNums_size]; exact hEl
    have HSE : Hid (sE = strOfNums RE) := esE
    have hz5 : ((⟨#[124]⟩ : ByteArray) ++ sE).size ≤ 2200000001 := by rw [ByteArray.size_append]; omega
    have hz6 : (so ++ ((⟨#[124]⟩ : ByteArray) ++ sE)).size ≤ 4400003001 := by rw [ByteArray.size_append]; omega
    have HF : Hid (so ++ ((⟨#[124]⟩ : ByteArray) ++ sE) ++ ⟨#[93]⟩ = strOfNums LW) := by
     have h2 : (⟨#[93]⟩ : ByteArray) = strOfNums [93] := rfl; have h3 : (⟨#[124]⟩ : ByteArray) = strOfNums [124] := rfl
     show _ = _
     rw [HSO.out, HSE.out, h2, h3, str_app, str_app, str_app, HLW.out, if_neg hnil]; simp
    clear e5 hnil esE; go_wp2_with fail; refine HNI.mono ?_; rintro e w9 ⟨rfl, hw9⟩; rw [hw9]; clear hw9 w9 HNI; go_wp2_with fail; refine HTE.mono ?_; rintro e w4 ⟨rfl, hb4⟩; rw [← HSE.out]; have HB4 : Hid (Below w.heap.size w w4) := Below.on (Below.on HB3.out HB.out) hb4; clear hb4 HTE; go_wp2_with fail
    all_goals go_ret
    all_goals exact ⟨by rw [← HF.out]; rfl, HB4.out⟩
end Go.Proofs.YtfgmenkoeflhaaaGreatDoor
