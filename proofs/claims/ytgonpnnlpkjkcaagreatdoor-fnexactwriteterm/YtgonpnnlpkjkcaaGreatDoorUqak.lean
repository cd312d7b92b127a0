/- Texts of Or0, OpsV1, OpsV2. Own work of the verifier. -/
import Derived.Test.YtgonpnnlpkjkcaaGreatDoorUqag
import Derived.Test.YtgonpnnlpkjkcaaGreatDoorUqaj
import Derived.Lib.BytesEntry
import Derived.Sort.Grow
namespace Go.Proofs.YtgonpnnlpkjkcaaGreatDoor
open Go Go.RowKit
set_option linter.unusedVariables false

def orI (x y : Int) : Int := if x ≠ 0 then x else y
/-- cmp.Or of two. -/
theorem or_any (b : Nat) (x y : Int) (w : World) (h0 : w.cell? ⟨b, 0, none⟩ = some (.int .i64 x)) (h1 : w.cell? ⟨b, 1, none⟩ = some (.int .i64 y)) : Calls Tryz.prog 70 #[.slice (some ⟨b, 0, none⟩) 2 2] w fun e w' => e = .returned (.int .i64 (orI x y)) ∧ w' = w := by
  have FIN : Hid (∀ c, c = orI x y → Ending.returned (.int .i64 c) = .returned (.int .i64 (orI x y))) := fun c h => ret_int h
  go_enter Tryz.func70, Tryz.ntmps70
  go_wp2_with fail
  go_loop [8] (fun i => i = .int .i64 0 ∨ (i = .int .i64 1 ∧ x = 0) ∨ (i = .int .i64 2 ∧ x = 0 ∧ y = 0)) (fun i => 2 - (intOf i).toNat)
  case atStart => exact .inl rfl
  case round =>
    rcases hrel with rfl | ⟨rfl, rfl⟩ | ⟨rfl, rfl, rfl⟩
    · by_cases hx : x = 0
      · subst hx
        go_wp2_with fail
        go_roundw
        case rel => exact .inr (.inl ⟨by go_num, by simp⟩)
        case measure => simp [intOf]
      · have HF : Hid _ := FIN.out x (by rw [orI, if_pos hx])
        go_wp2_with fail
        go_ret
        exact ⟨HF.out, rfl⟩
    · by_cases hx : y = 0
      · subst hx
        go_wp2_with fail
        go_roundw
        case rel => exact .inr (.inr ⟨by go_num, by simp⟩)
        case measure => simp [intOf]
      · have HF : Hid _ := FIN.out y (by rw [orI, if_neg (by simp)])
        go_wp2_with fail
        go_ret
        exact ⟨HF.out, rfl⟩
    · go_wp2_with fail
      go_ret
      exact ⟨rfl, rfl⟩
theorem pair_new (W : World) (a b : Value) (t : TypeId) : (W.alloc (.cells #[a, b] t)).cell? ⟨W.heap.size, 0, none⟩ = some a ∧ (W.alloc (.cells #[a, b] t)).cell? ⟨W.heap.size, 1, none⟩ = some b :=
  ⟨by simp [World.cell?_alloc_new], by simp [World.cell?_alloc_new]⟩

end Go.Proofs.YtgonpnnlpkjkcaaGreatDoor

namespace Go.Proofs.YtgonpnnlpkjkcaaGreatDoor
open Go Go.RowKit
set_option linter.unusedVariables false

def resB (s : ByteArray) : Bool := s.toList == [91, 93] || s.toList == [123, 125] || s.toList == [124]
def preB (t : Int) : Bool := t == 3 || t == 4
def srt (t : Int) : Int := if preB t then 0 else 1

theorem isReserved_any (s : ByteArray) (w : World) : Calls Tryz.prog 69 #[.string s] w fun e w' => e = .returned (.bool (resB s)) ∧ w' = w := by
  cases h1 : (s.toList == [91, 93]) <;> cases h2 : (s.toList == [123, 125]) <;> cases h3 : (s.toList == [124])
  all_goals
    have HF : Hid (∀ b, b = resB s → Ending.returned (.bool b) = .returned (.bool (resB s))) := fun b h => ret_bool h
    have HR : Hid (resB s = (s.toList == [91, 93] || s.toList == [123, 125] || s.toList == [124])) := rfl
    rw [h1, h2, h3] at HR
    go_enter Tryz.func69, Tryz.ntmps69
    go_wp2_with fail
    go_ret
    exact ⟨HF.out _ HR.out.symm, rfl⟩

theorem l3special_any (p : Option Addr) (m cap : Nat) (xs : List Int) (w : World) (hm : m = xs.length) (h : BIn w p xs) : Calls Tryz.prog 37 #[.slice p m cap] w fun e w' => e = .returned (.bool (resB (strOfNums xs))) ∧ w' = w := by
  have cv := conv_str h m cap hm 9 Tryz.underlying9
  clear h hm
  generalize strOfNums xs = s at cv ⊢
  cases h1 : (s.toList == [91, 93]) <;> cases h2 : (s.toList == [123, 125]) <;> cases h3 : (s.toList == [124])
  all_goals
    have HF : Hid (∀ b, b = resB s → Ending.returned (.bool b) = .returned (.bool (resB s))) := fun b h => ret_bool h
    have HR : Hid (resB s = (s.toList == [91, 93] || s.toList == [123, 125] || s.toList == [124])) := rfl
    rw [h1, h2, h3] at HR
    go_enter Tryz.func37, Tryz.ntmps37
    go_wp2_with fail
    go_ret
    exact ⟨HF.out _ HR.out.symm, rfl⟩

theorem sortOf_any (t : Int) (w : World) : Calls Tryz.prog 73 #[.int .i64 t] w fun e w' => e = .returned (.int .i64 (srt t)) ∧ w' = w := by
  have HR : Hid (srt t = if (t == 3 || t == 4) then 0 else 1) := rfl
  cases h1 : (t == 3) <;> cases h2 : (t == 4)
  all_goals
    rw [h1, h2] at HR
    have HF : Hid (∀ b, b = srt t → Ending.returned (.int .i64 b) = .returned (.int .i64 (srt t))) := fun b h => ret_int h
    go_enter Tryz.func73, Tryz.ntmps73
    go_wp2_with fail
    go_ret
    exact ⟨HF.out _ HR.out.symm, rfl⟩

theorem l3prefix_any (t : Int) (w : World) : Calls Tryz.prog 38 #[.int .i64 t] w fun e w' => e = .returned (.bool (preB t)) ∧ w' = w := by
  have HR : Hid (preB t = (t == 3 || t == 4)) := rfl
  cases h1 : (t == 3) <;> cases h2 : (t == 4)
  all_goals
    rw [h1, h2] at HR
    have HF : Hid (∀ b, b = preB t → Ending.returned (.bool b) = .returned (.bool (preB t))) := fun b h => ret_bool h
    go_enter Tryz.func38, Tryz.ntmps38
    go_wp2_with fail
    go_ret
    exact ⟨HF.out _ HR.out.symm, rfl⟩

theorem isOpName_any (p : Option Addr) (m cap : Nat) (w : World) (hm : m ≤ 1000000000) : Calls Tryz.prog 67 #[.slice p m cap] w fun e w' => e = .returned (.bool (decide (1 ≤ m ∧ m ≤ 100))) ∧ w' = w := by
  by_cases h1 : 1 ≤ m
  · by_cases h2 : m ≤ 100
    · have e : decide (1 ≤ m ∧ m ≤ 100) = true := by simp [h1, h2]
      have h2' : decide ((m : Int) ≤ 100) = true := by simp; omega
      rw [e]
      clear e
      go_enter Tryz.func67, Tryz.ntmps67
      go_wp2_with fail
      go_ret
      exact ⟨rfl, rfl⟩
    · have e : decide (1 ≤ m ∧ m ≤ 100) = false := by simp; omega
      have h2' : decide ((m : Int) ≤ 100) = false := by simp; omega
      rw [e]
      clear e
      go_enter Tryz.func67, Tryz.ntmps67
      go_wp2_with fail
      go_ret
      exact ⟨rfl, rfl⟩
  · have e : decide (1 ≤ m ∧ m ≤ 100) = false := by simp; omega
    rw [e]
    clear e
    go_enter Tryz.func67, Tryz.ntmps67
    go_wp2_with fail
    go_ret
    exact ⟨rfl, rfl⟩

theorem isOpType_any (t : Int) (w : World) : Calls Tryz.prog 68 #[.int .i64 t] w fun e w' => e = .returned (.bool (decide (0 ≤ t ∧ t ≤ 6))) ∧ w' = w := by
  by_cases h1 : 0 ≤ t
  · by_cases h2 : t ≤ 6
    · have e : decide (0 ≤ t ∧ t ≤ 6) = true := by simp [h1, h2]
      rw [e]
      clear e
      go_enter Tryz.func68, Tryz.ntmps68
      go_wp2_with fail
      go_ret
      exact ⟨rfl, rfl⟩
    · have e : decide (0 ≤ t ∧ t ≤ 6) = false := by simp; omega
      rw [e]
      clear e
      go_enter Tryz.func68, Tryz.ntmps68
      go_wp2_with fail
      go_ret
      exact ⟨rfl, rfl⟩
  · have e : decide (0 ≤ t ∧ t ≤ 6) = false := by simp; omega
    rw [e]
    clear e
    go_enter Tryz.func68, Tryz.ntmps68
    go_wp2_with fail
    go_ret
    exact ⟨rfl, rfl⟩

theorem isNaNo_any (x : Int) (w : World) : Calls Tryz.prog 92 #[.int .i64 x] w fun e w' => e = .returned (.bool false) ∧ w' = w := by
  go_enter Tryz.func92, Tryz.ntmps92
  go_wp2_with fail
  go_ret
  exact ⟨rfl, rfl⟩
theorem compareO_any (x y : Int) (w : World) : Calls Tryz.prog 72 #[.int .i64 x, .int .i64 y] w fun e w' => e = .returned (.int .i64 (cmpI x y)) ∧ w' = w := by
  have H1 := isNaNo_any x w
  have H2 := isNaNo_any y w
  have FIN : Hid (∀ c, c = cmpI x y → Ending.returned (.int .i64 c) = .returned (.int .i64 (cmpI x y))) := fun c h => ret_int h
  by_cases h1 : x < y
  · have HF : Hid _ := FIN.out (-1) (by rw [cmpI, if_pos h1])
    go_enter Tryz.func72, Tryz.ntmps72
    go_wp2_with fail
    refine H1.mono ?_
    rintro e w1 ⟨rfl, rfl⟩
    go_wp2_with fail
    refine H2.mono ?_
    rintro e w1 ⟨rfl, rfl⟩
    go_wp2_with fail
    go_ret
    exact ⟨HF.out, rfl⟩
  · by_cases h2 : y < x
    · have HF : Hid _ := FIN.out 1 (by rw [cmpI, if_neg h1, if_pos h2])
      go_enter Tryz.func72, Tryz.ntmps72
      go_wp2_with fail
      refine H1.mono ?_
      rintro e w1 ⟨rfl, rfl⟩
      go_wp2_with fail
      refine H2.mono ?_
      rintro e w1 ⟨rfl, rfl⟩
      go_wp2_with fail
      go_ret
      exact ⟨HF.out, rfl⟩
    · have HF : Hid _ := FIN.out 0 (by rw [cmpI, if_neg h1, if_neg h2])
      go_enter Tryz.func72, Tryz.ntmps72
      go_wp2_with fail
      refine H1.mono ?_
      rintro e w1 ⟨rfl, rfl⟩
      go_wp2_with fail
      refine H2.mono ?_
      rintro e w1 ⟨rfl, rfl⟩
      go_wp2_with fail
      go_ret
      exact ⟨HF.out, rfl⟩

theorem compareBytes_eq : ∀ l m : List UInt8, Lib.compareBytes l m = if Op.bytesLess l m then -1 else if l == m then 0 else 1
  | [], [] => by simp [Lib.compareBytes, Op.bytesLess]
  | [], _ :: _ => by simp [Lib.compareBytes, Op.bytesLess]
  | _ :: _, [] => by simp [Lib.compareBytes, Op.bytesLess]
  | a :: x, b :: y => by
    have ih := compareBytes_eq x y
    simp only [Lib.compareBytes, Op.bytesLess, ih]
    by_cases h1 : a < b
    · simp [h1]
    · by_cases h2 : b < a
      · have hne : ¬ a = b := fun e => by subst e; exact h1 h2
        simp [h1, h2, hne]
      · have e : a = b := by rw [u8_lt] at h1 h2; rw [u8_eq]; omega
        subst e
        simp

/-- What the model's own comparing of two slices of bytes reads. -/
theorem run_bytesOf {w : World} {p : Option Addr} {xs : List Int} (h : BIn w p xs) (m cap : Nat) (hm : m = xs.length) : (Extern.Bytes.bytesOf (.slice p m cap)).run Tryz.prog w = .ok (strOfNums xs) w := by
  subst hm
  by_cases hn : 0 < xs.length
  · obtain ⟨b, o, rfl, hc⟩ := h hn
    have hl := Lib.run_loadBytesX (P := Tryz.prog) w xs ⟨b, o, none⟩ .empty (fun j x hj => by
      have hjl : j < xs.length := (List.getElem?_eq_some_iff.1 hj).1
      have e : (⟨b, o, none⟩ : Addr).add j = ⟨b, o + j, none⟩ := by unfold Addr.add; split <;> simp_all
      rw [e, hc j hjl, List.getD_eq_getElem?_getD, hj]
      rfl)
    simp only [Extern.Bytes.bytesOf]
    rw [hl]
    congr 1
    apply ByteArray.ext
    show (#[] : Array UInt8) ++ (Lib.bytesOf xs).toArray = (strOfNums xs).data
    simp [Lib.bytesOf, strOfNums]
  · obtain rfl : xs = [] := by cases xs with | nil => rfl | cons a r => simp at hn
    cases p with
    | none => simp [Extern.Bytes.bytesOf]; rfl
    | some a => simp [Extern.Bytes.bytesOf, Extern.Bytes.loadBytes]; rfl

theorem run_compareS {w : World} {p q : Option Addr} {xs ys : List Int} (hx : BIn w p xs) (hy : BIn w q ys) (m n c1 c2 : Nat) (hm : m = xs.length) (hn : n = ys.length) :
    (Extern.BytealgCompare.compare #[.slice p m c1, .slice q n c2]).run Tryz.prog w = .ok (.int .i64 (cmpS (strOfNums xs) (strOfNums ys))) w := by
  change Sem.run Tryz.prog (do pure (goInt (Extern.BytealgCompare.cmp (← Extern.Bytes.bytesOf (.slice p m c1)) (← Extern.Bytes.bytesOf (.slice q n c2))))) w = _
  simp only [Sem.run_bind, run_bytesOf hx m c1 hm, run_bytesOf hy n c2 hn, Sem.run_pure, Result.andThen]
  rw [Lib.cmp_eq, compareBytes_eq, cmpS, ByteArray.toList_eq, ByteArray.toList_eq]
  rfl

set_option maxRecDepth 100000 in
theorem bytesCompare_any (p q : Option Addr) (m n c1 c2 : Nat) (xs ys : List Int) (w : World) (hm : m = xs.length) (hn : n = ys.length) (hx : BIn w p xs) (hy : BIn w q ys) :
    Calls Tryz.prog 71 #[.slice p m c1, .slice q n c2] w fun e w' => e = .returned (.int .i64 (cmpS (strOfNums xs) (strOfNums ys))) ∧ w' = w := by
  have hr := run_compareS hx hy m n c1 c2 hm hn
  clear hx hy hm hn
  generalize cmpS (strOfNums xs) (strOfNums ys) = r at hr ⊢
  go_enter Tryz.func71, Tryz.ntmps71
  go_wp2_with fail
  rw [run_callFunc_extern Tryz.func91 (by kernel_rfl) (by kernel_rfl) (by kernel_rfl) (e := Extern.BytealgCompare.compare) (by kernel_rfl), hr]
  simp only [Result.andThen]
  rw [Oper.upon_value]
  go_wp2_with fail
  go_ret
  exact ⟨rfl, rfl⟩

end Go.Proofs.YtgonpnnlpkjkcaaGreatDoor

namespace Go.Proofs.YtgonpnnlpkjkcaaGreatDoor
open Go Go.RowKit Go.Sort
set_option linter.unusedVariables false

/-- How two operators are ordered: by their names, then by their sorts. -/
def opCmp (x y : Cel) : Int := orI (cmpS (strOfNums x.2.2) (strOfNums y.2.2)) (cmpI (srt x.2.1) (srt y.2.1))

set_option maxRecDepth 100000 in
set_option maxHeartbeats 1000000 in
theorem compareOps_any (k1 n1 k2 n2 : Int) (p q : Option Addr) (m1 m2 c1 c2 : Nat) (xs ys : List Int) (w : World) (hl1 : m1 = xs.length) (hl2 : m2 = ys.length) (hx : BIn w p xs) (hy : BIn w q ys) :
    Calls Tryz.prog 46 #[.agg #[.slice p m1 c1, .int .i64 k1, .int .i64 n1], .agg #[.slice q m2 c2, .int .i64 k2, .int .i64 n2]] w fun e w' => e = .returned (.int .i64 (opCmp (k1, n1, xs) (k2, n2, ys))) ∧ ∃ q os', w' = grow (w.drewN q) os' := by
  have hC : ∀ W, Below w.heap.size w W → Calls Tryz.prog 71 #[.slice p m1 c1, .slice q m2 c2] W fun e w' => e = .returned (.int .i64 (cmpS (strOfNums xs) (strOfNums ys))) ∧ w' = W := fun W hW => bytesCompare_any p q m1 m2 c1 c2 xs ys W hl1 hl2 (hx.below hW) (hy.below hW)
  have hS1 := fun W => sortOf_any n1 W
  have hS2 := fun W => sortOf_any n2 W
  have hI := fun W => compareO_any (srt n1) (srt n2) W
  rw [opCmp]
  simp only
  generalize cmpS (strOfNums xs) (strOfNums ys) = cs at hC ⊢
  generalize srt n1 = s1 at hS1 hI ⊢
  generalize srt n2 = s2 at hS2 hI ⊢
  generalize cmpI s1 s2 = ci at hI ⊢
  have hO : ∀ (b : Nat) (W : World), W.cell? ⟨b, 0, none⟩ = some (.int .i64 cs) → W.cell? ⟨b, 1, none⟩ = some (.int .i64 ci) → Calls Tryz.prog 70 #[.slice (some ⟨b, 0, none⟩) 2 2] W fun e w' => e = .returned (.int .i64 (orI cs ci)) ∧ w' = W := fun b W h0 h1 => or_any b cs ci W h0 h1
  generalize orI cs ci = co at hO ⊢
  have hb : Below w.heap.size w ((w.alloc (.cells #[.slice p m1 c1, .int .i64 k1, .int .i64 n1] 55)).alloc (.cells #[.slice q m2 c2, .int .i64 k2, .int .i64 n2] 55)) := ((Below.refl _ _).alloc (Nat.le_refl _) _).alloc (by simp) _
  have G1 : Box3 ((w.alloc (.cells #[.slice p m1 c1, .int .i64 k1, .int .i64 n1] 55)).alloc (.cells #[.slice q m2 c2, .int .i64 k2, .int .i64 n2] 55)) w.heap.size (.slice p m1 c1) (.int .i64 k1) (.int .i64 n1) := Box3.of_block (t := 55) ((Below.heap_alloc _ _ _ (by simp)).trans (heap_alloc_new _ _))
  have G2 : Box3 ((w.alloc (.cells #[.slice p m1 c1, .int .i64 k1, .int .i64 n1] 55)).alloc (.cells #[.slice q m2 c2, .int .i64 k2, .int .i64 n2] 55)) (w.heap.size + 1) (.slice q m2 c2) (.int .i64 k2) (.int .i64 n2) := Box3.of_block (t := 55) (by
    have := heap_alloc_new (w.alloc (.cells #[.slice p m1 c1, .int .i64 k1, .int .i64 n1] 55)) (.cells #[.slice q m2 c2, .int .i64 k2, .int .i64 n2] 55)
    rw [World.size_alloc] at this
    exact this)
  have HG : Hid (∃ os, (w.alloc (.cells #[.slice p m1 c1, .int .i64 k1, .int .i64 n1] 55)).alloc (.cells #[.slice q m2 c2, .int .i64 k2, .int .i64 n2] 55) = grow w os) := ⟨_, by rw [alloc_eq_grow, alloc_eq_grow, grow_grow]⟩
  have HC : Hid (∀ W, Below w.heap.size w W → _) := hC
  have HS1 : Hid _ := hS1
  have HS2 : Hid _ := hS2
  have HI : Hid _ := hI
  have HO : Hid _ := hO
  have HBW : Hid _ := hb
  have HG1 : Hid _ := G1
  have HG2 : Hid _ := G2
  clear hC hS1 hS2 hI hO hx hy hl1 hl2 hb G1 G2
  go_enter Tryz.func46, Tryz.ntmps46
  go_wp2_with fail
  obtain ⟨a0, a1, a2, _⟩ := HG1.out
  obtain ⟨b0, b1, b2, _⟩ := HG2.out
  clear HG1 HG2
  generalize (w.alloc (.cells #[.slice p m1 c1, .int .i64 k1, .int .i64 n1] 55)).alloc (.cells #[.slice q m2 c2, .int .i64 k2, .int .i64 n2] 55) = W2 at *
  go_region_held3 (fun W => (W.cell? ⟨w.heap.size, 0, none⟩ = some (.slice p m1 c1) ∧ W.cell? ⟨w.heap.size, 2, none⟩ = some (.int .i64 n1)) ∧ W.cell? ⟨w.heap.size + 1, 0, none⟩ = some (.slice q m2 c2) ∧ W.cell? ⟨w.heap.size + 1, 2, none⟩ = some (.int .i64 n2))
    (go_keep)
    (first
      | (go_at_call 71; refine (HC.out _ (by first | exact HBW.out | exact HBW.out.trans (Below.refl _ _).drew)).mono ?_; rintro e w' ⟨rfl, rfl⟩)
      | (go_at_call 72; refine (HI.out _).mono ?_; rintro e w' ⟨rfl, rfl⟩)
      | (go_at_call 73; refine (HS1.out _).mono ?_; rintro e w' ⟨rfl, rfl⟩)
      | (go_at_call 73; refine (HS2.out _).mono ?_; rintro e w' ⟨rfl, rfl⟩)
      | (go_at_call 70; refine (HO.out _ _ (by exact (pair_new _ _ _ _).1) (by exact (pair_new _ _ _ _).2)).mono ?_; rintro e w' ⟨rfl, rfl⟩))
  all_goals go_wp2_with fail
  all_goals go_ret
  obtain ⟨os, hos⟩ := HG.out
  exact ⟨rfl, 1, _, by rw [hos, alloc_eq_grow, grow_grow, drew_grow]; rfl⟩

end Go.Proofs.YtgonpnnlpkjkcaaGreatDoor

