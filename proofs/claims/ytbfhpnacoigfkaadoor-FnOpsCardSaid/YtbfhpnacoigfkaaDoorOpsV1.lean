/- Small functions of tables of operators. Own work of the verifier. -/
import Derived.Test.YtbfhpnacoigfkaaDoorOps3
import Derived.Test.YtbfhpnacoigfkaaDoorOr0
import Derived.Lib.BytesEntry
namespace Go.Proofs.YtbfhpnacoigfkaaDoor
open Go Go.RowKit
set_option linter.unusedVariables false

def resB (s : ByteArray) : Bool := s.toList == [91, 93] || s.toList == [123, 125] || s.toList == [124]
def preB (t : Int) : Bool := t == 3 || t == 4
def srt (t : Int) : Int := if preB t then 0 else 1

theorem isReserved_any (s : ByteArray) (w : World) : Calls Tryd.prog 48 #[.string s] w fun e w' => e = .returned (.bool (resB s)) ∧ w' = w := by
  cases h1 : (s.toList == [91, 93]) <;> cases h2 : (s.toList == [123, 125]) <;> cases h3 : (s.toList == [124])
  all_goals
    have HF : Hid (∀ b, b = resB s → Ending.returned (.bool b) = .returned (.bool (resB s))) := fun b h => ret_bool h
    have HR : Hid (resB s = (s.toList == [91, 93] || s.toList == [123, 125] || s.toList == [124])) := rfl
    rw [h1, h2, h3] at HR
    go_enter Tryd.func48, Tryd.ntmps48
    go_wp2_with fail
    go_ret
    exact ⟨HF.out _ HR.out.symm, rfl⟩

theorem l3special_any (p : Option Addr) (m cap : Nat) (xs : List Int) (w : World) (hm : m = xs.length) (h : BIn w p xs) : Calls Tryd.prog 29 #[.slice p m cap] w fun e w' => e = .returned (.bool (resB (strOfNums xs))) ∧ w' = w := by
  have cv := conv_str h m cap hm 9 Tryd.underlying9
  clear h hm
  generalize strOfNums xs = s at cv ⊢
  cases h1 : (s.toList == [91, 93]) <;> cases h2 : (s.toList == [123, 125]) <;> cases h3 : (s.toList == [124])
  all_goals
    have HF : Hid (∀ b, b = resB s → Ending.returned (.bool b) = .returned (.bool (resB s))) := fun b h => ret_bool h
    have HR : Hid (resB s = (s.toList == [91, 93] || s.toList == [123, 125] || s.toList == [124])) := rfl
    rw [h1, h2, h3] at HR
    go_enter Tryd.func29, Tryd.ntmps29
    go_wp2_with fail
    go_ret
    exact ⟨HF.out _ HR.out.symm, rfl⟩

theorem sortOf_any (t : Int) (w : World) : Calls Tryd.prog 52 #[.int .i64 t] w fun e w' => e = .returned (.int .i64 (srt t)) ∧ w' = w := by
  have HR : Hid (srt t = if (t == 3 || t == 4) then 0 else 1) := rfl
  cases h1 : (t == 3) <;> cases h2 : (t == 4)
  all_goals
    rw [h1, h2] at HR
    have HF : Hid (∀ b, b = srt t → Ending.returned (.int .i64 b) = .returned (.int .i64 (srt t))) := fun b h => ret_int h
    go_enter Tryd.func52, Tryd.ntmps52
    go_wp2_with fail
    go_ret
    exact ⟨HF.out _ HR.out.symm, rfl⟩

theorem l3prefix_any (t : Int) (w : World) : Calls Tryd.prog 31 #[.int .i64 t] w fun e w' => e = .returned (.bool (preB t)) ∧ w' = w := by
  have HR : Hid (preB t = (t == 3 || t == 4)) := rfl
  cases h1 : (t == 3) <;> cases h2 : (t == 4)
  all_goals
    rw [h1, h2] at HR
    have HF : Hid (∀ b, b = preB t → Ending.returned (.bool b) = .returned (.bool (preB t))) := fun b h => ret_bool h
    go_enter Tryd.func31, Tryd.ntmps31
    go_wp2_with fail
    go_ret
    exact ⟨HF.out _ HR.out.symm, rfl⟩

theorem isOpName_any (p : Option Addr) (m cap : Nat) (w : World) (hm : m ≤ 1000000000) : Calls Tryd.prog 46 #[.slice p m cap] w fun e w' => e = .returned (.bool (decide (1 ≤ m ∧ m ≤ 100))) ∧ w' = w := by
  by_cases h1 : 1 ≤ m
  · by_cases h2 : m ≤ 100
    · have e : decide (1 ≤ m ∧ m ≤ 100) = true := by simp [h1, h2]
      have h2' : decide ((m : Int) ≤ 100) = true := by simp; omega
      rw [e]
      clear e
      go_enter Tryd.func46, Tryd.ntmps46
      go_wp2_with fail
      go_ret
      exact ⟨rfl, rfl⟩
    · have e : decide (1 ≤ m ∧ m ≤ 100) = false := by simp; omega
      have h2' : decide ((m : Int) ≤ 100) = false := by simp; omega
      rw [e]
      clear e
      go_enter Tryd.func46, Tryd.ntmps46
      go_wp2_with fail
      go_ret
      exact ⟨rfl, rfl⟩
  · have e : decide (1 ≤ m ∧ m ≤ 100) = false := by simp; omega
    rw [e]
    clear e
    go_enter Tryd.func46, Tryd.ntmps46
    go_wp2_with fail
    go_ret
    exact ⟨rfl, rfl⟩

theorem isOpType_any (t : Int) (w : World) : Calls Tryd.prog 47 #[.int .i64 t] w fun e w' => e = .returned (.bool (decide (0 ≤ t ∧ t ≤ 6))) ∧ w' = w := by
  by_cases h1 : 0 ≤ t
  · by_cases h2 : t ≤ 6
    · have e : decide (0 ≤ t ∧ t ≤ 6) = true := by simp [h1, h2]
      rw [e]
      clear e
      go_enter Tryd.func47, Tryd.ntmps47
      go_wp2_with fail
      go_ret
      exact ⟨rfl, rfl⟩
    · have e : decide (0 ≤ t ∧ t ≤ 6) = false := by simp; omega
      rw [e]
      clear e
      go_enter Tryd.func47, Tryd.ntmps47
      go_wp2_with fail
      go_ret
      exact ⟨rfl, rfl⟩
  · have e : decide (0 ≤ t ∧ t ≤ 6) = false := by simp; omega
    rw [e]
    clear e
    go_enter Tryd.func47, Tryd.ntmps47
    go_wp2_with fail
    go_ret
    exact ⟨rfl, rfl⟩

theorem isNaNo_any (x : Int) (w : World) : Calls Tryd.prog 57 #[.int .i64 x] w fun e w' => e = .returned (.bool false) ∧ w' = w := by
  go_enter Tryd.func57, Tryd.ntmps57
  go_wp2_with fail
  go_ret
  exact ⟨rfl, rfl⟩
theorem compareO_any (x y : Int) (w : World) : Calls Tryd.prog 51 #[.int .i64 x, .int .i64 y] w fun e w' => e = .returned (.int .i64 (cmpI x y)) ∧ w' = w := by
  have H1 := isNaNo_any x w
  have H2 := isNaNo_any y w
  have FIN : Hid (∀ c, c = cmpI x y → Ending.returned (.int .i64 c) = .returned (.int .i64 (cmpI x y))) := fun c h => ret_int h
  by_cases h1 : x < y
  · have HF : Hid _ := FIN.out (-1) (by rw [cmpI, if_pos h1])
    go_enter Tryd.func51, Tryd.ntmps51
    go_wp2_with fail
    refine H1.mono ?_
    rintro e w1 ⟨rfl, rfl⟩
    go_wp2_with fail
    refine H2.mono ?_
    rintro e w1 ⟨rfl, rfl⟩
    go_wp2_with fail
    go_ret
    exact ⟨HF.out, rfl⟩
  · by_cases h2 : y < x
    · have HF : Hid _ := FIN.out 1 (by rw [cmpI, if_neg h1, if_pos h2])
      go_enter Tryd.func51, Tryd.ntmps51
      go_wp2_with fail
      refine H1.mono ?_
      rintro e w1 ⟨rfl, rfl⟩
      go_wp2_with fail
      refine H2.mono ?_
      rintro e w1 ⟨rfl, rfl⟩
      go_wp2_with fail
      go_ret
      exact ⟨HF.out, rfl⟩
    · have HF : Hid _ := FIN.out 0 (by rw [cmpI, if_neg h1, if_neg h2])
      go_enter Tryd.func51, Tryd.ntmps51
      go_wp2_with fail
      refine H1.mono ?_
      rintro e w1 ⟨rfl, rfl⟩
      go_wp2_with fail
      refine H2.mono ?_
      rintro e w1 ⟨rfl, rfl⟩
      go_wp2_with fail
      go_ret
      exact ⟨HF.out, rfl⟩

theorem compareBytes_eq : ∀ l m : List UInt8, Lib.compareBytes l m = if Op.bytesLess l m then -1 else if l == m then 0 else 1
  | [], [] => by simp [Lib.compareBytes, Op.bytesLess]
  | [], _ :: _ => by simp [Lib.compareBytes, Op.bytesLess]
  | _ :: _, [] => by simp [Lib.compareBytes, Op.bytesLess]
  | a :: x, b :: y => by
    have ih := compareBytes_eq x y
    simp only [Lib.compareBytes, Op.bytesLess, ih]
    by_cases h1 : a < b
    · simp [h1]
    · by_cases h2 : b < a
      · have hne : ¬ a = b := fun e => by subst e; exact h1 h2
        simp [h1, h2, hne]
      · have e : a = b := by rw [u8_lt] at h1 h2; rw [u8_eq]; omega
        subst e
        simp

/-- What the model's own comparing of two slices of bytes reads. -/
theorem run_bytesOf {w : World} {p : Option Addr} {xs : List Int} (h : BIn w p xs) (m cap : Nat) (hm : m = xs.length) : (Extern.Bytes.bytesOf (.slice p m cap)).run Tryd.prog w = .ok (strOfNums xs) w := by
  subst hm
  by_cases hn : 0 < xs.length
  · obtain ⟨b, o, rfl, hc⟩ := h hn
    have hl := Lib.run_loadBytesX (P := Tryd.prog) w xs ⟨b, o, none⟩ .empty (fun j x hj => by
      have hjl : j < xs.length := (List.getElem?_eq_some_iff.1 hj).1
      have e : (⟨b, o, none⟩ : Addr).add j = ⟨b, o + j, none⟩ := by unfold Addr.add; split <;> simp_all
      rw [e, hc j hjl, List.getD_eq_getElem?_getD, hj]
      rfl)
    simp only [Extern.Bytes.bytesOf]
    rw [hl]
    congr 1
    apply ByteArray.ext
    show (#[] : Array UInt8) ++ (Lib.bytesOf xs).toArray = (strOfNums xs).data
    simp [Lib.bytesOf, strOfNums]
  · obtain rfl : xs = [] := by cases xs with | nil => rfl | cons a r => simp at hn
    cases p with
    | none => simp [Extern.Bytes.bytesOf]; rfl
    | some a => simp [Extern.Bytes.bytesOf, Extern.Bytes.loadBytes]; rfl

theorem run_compareS {w : World} {p q : Option Addr} {xs ys : List Int} (hx : BIn w p xs) (hy : BIn w q ys) (m n c1 c2 : Nat) (hm : m = xs.length) (hn : n = ys.length) :
    (Extern.BytealgCompare.compare #[.slice p m c1, .slice q n c2]).run Tryd.prog w = .ok (.int .i64 (cmpS (strOfNums xs) (strOfNums ys))) w := by
  change Sem.run Tryd.prog (do pure (goInt (Extern.BytealgCompare.cmp (← Extern.Bytes.bytesOf (.slice p m c1)) (← Extern.Bytes.bytesOf (.slice q n c2))))) w = _
  simp only [Sem.run_bind, run_bytesOf hx m c1 hm, run_bytesOf hy n c2 hn, Sem.run_pure, Result.andThen]
  rw [Lib.cmp_eq, compareBytes_eq, cmpS, ByteArray.toList_eq, ByteArray.toList_eq]
  rfl

theorem bytesCompare_any (p q : Option Addr) (m n c1 c2 : Nat) (xs ys : List Int) (w : World) (hm : m = xs.length) (hn : n = ys.length) (hx : BIn w p xs) (hy : BIn w q ys) :
    Calls Tryd.prog 50 #[.slice p m c1, .slice q n c2] w fun e w' => e = .returned (.int .i64 (cmpS (strOfNums xs) (strOfNums ys))) ∧ w' = w := by
  have hr := run_compareS hx hy m n c1 c2 hm hn
  clear hx hy hm hn
  generalize cmpS (strOfNums xs) (strOfNums ys) = r at hr ⊢
  go_enter Tryd.func50, Tryd.ntmps50
  go_wp2_with fail
  rw [run_callFunc_extern Tryd.func56 (by kernel_rfl) (by kernel_rfl) (by kernel_rfl) (e := Extern.BytealgCompare.compare) (by kernel_rfl), hr]
  simp only [Result.andThen]
  rw [Oper.upon_value]
  go_wp2_with fail
  go_ret
  exact ⟨rfl, rfl⟩

end Go.Proofs.YtbfhpnacoigfkaaDoor
