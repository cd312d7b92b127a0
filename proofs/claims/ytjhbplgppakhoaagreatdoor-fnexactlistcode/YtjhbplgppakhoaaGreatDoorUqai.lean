/- Texts of OpsV1, OpsV2, OpsV3, OpsP. Own work of the verifier. -/
import Derived.Test.YtjhbplgppakhoaaGreatDoorUqah
import Derived.Lib.BytesEntry
import Derived.Sort.Grow
namespace Go.Proofs.YtjhbplgppakhoaaGreatDoor
open Go Go.RowKit
set_option linter.unusedVariables false
def resB (s : ByteArray) : Bool := s.toList == [91, 93] || s.toList == [123, 125] || s.toList == [124]
def preB (t : Int) : Bool := t == 3 || t == 4
def srt (t : Int) : Int := if preB t then 0 else 1
theorem isReserved_any (s : ByteArray) (w : World) : Calls Tryz.prog 100 #[.string s] w fun e w' => e = .returned (.bool (resB s)) ∧ w' = w := by
  cases h1 : (s.toList == [91, 93]) <;> cases h2 : (s.toList == [123, 125]) <;> cases h3 : (s.toList == [124])
  all_goals
    have HF : Hid (∀ b, b = resB s → Ending.returned (.bool b) = .returned (.bool (resB s))) := fun b h => ret_bool h
    have HR : Hid (resB s = (s.toList == [91, 93] || s.toList == [123, 125] || s.toList == [124])) := rfl
    rw [h1, h2, h3] at HR
    go_enter Tryz.func100, Tryz.ntmps100
    go_wp2_with fail
    go_ret
    exact ⟨HF.out _ HR.out.symm, rfl⟩
theorem l3special_any (p : Option Addr) (m cap : Nat) (xs : List Int) (w : World) (hm : m = xs.length) (h : BIn w p xs) : Calls Tryz.prog 59 #[.slice p m cap] w fun e w' => e = .returned (.bool (resB (strOfNums xs))) ∧ w' = w := by
  have cv := conv_str h m cap hm 9 Tryz.underlying9
  clear h hm
  generalize strOfNums xs = s at cv ⊢
  cases h1 : (s.toList == [91, 93]) <;> cases h2 : (s.toList == [123, 125]) <;> cases h3 : (s.toList == [124])
  all_goals
    have HF : Hid (∀ b, b = resB s → Ending.returned (.bool b) = .returned (.bool (resB s))) := fun b h => ret_bool h
    have HR : Hid (resB s = (s.toList == [91, 93] || s.toList == [123, 125] || s.toList == [124])) := rfl
    rw [h1, h2, h3] at HR
    go_enter Tryz.func59, Tryz.ntmps59
    go_wp2_with fail
    go_ret
    exact ⟨HF.out _ HR.out.symm, rfl⟩
theorem sortOf_any (t : Int) (w : World) : Calls Tryz.prog 104 #[.int .i64 t] w fun e w' => e = .returned (.int .i64 (srt t)) ∧ w' = w := by
  have HR : Hid (srt t = if (t == 3 || t == 4) then 0 else 1) := rfl
  cases h1 : (t == 3) <;> cases h2 : (t == 4)
  all_goals
    rw [h1, h2] at HR
    have HF : Hid (∀ b, b = srt t → Ending.returned (.int .i64 b) = .returned (.int .i64 (srt t))) := fun b h => ret_int h
    go_enter Tryz.func104, Tryz.ntmps104
    go_wp2_with fail
    go_ret
    exact ⟨HF.out _ HR.out.symm, rfl⟩
theorem l3prefix_any (t : Int) (w : World) : Calls Tryz.prog 60 #[.int .i64 t] w fun e w' => e = .returned (.bool (preB t)) ∧ w' = w := by
  have HR : Hid (preB t = (t == 3 || t == 4)) := rfl
  cases h1 : (t == 3) <;> cases h2 : (t == 4)
  all_goals
    rw [h1, h2] at HR
    have HF : Hid (∀ b, b = preB t → Ending.returned (.bool b) = .returned (.bool (preB t))) := fun b h => ret_bool h
    go_enter Tryz.func60, Tryz.ntmps60
    go_wp2_with fail
    go_ret
    exact ⟨HF.out _ HR.out.symm, rfl⟩
theorem isOpName_any (p : Option Addr) (m cap : Nat) (w : World) (hm : m ≤ 1000000000) : Calls Tryz.prog 98 #[.slice p m cap] w fun e w' => e = .returned (.bool (decide (1 ≤ m ∧ m ≤ 100))) ∧ w' = w := by
  by_cases h1 : 1 ≤ m
  · by_cases h2 : m ≤ 100
    · have e : decide (1 ≤ m ∧ m ≤ 100) = true := by simp [h1, h2]
      have h2' : decide ((m : Int) ≤ 100) = true := by simp; omega
      rw [e]
      clear e
      go_enter Tryz.func98, Tryz.ntmps98
      go_wp2_with fail
      go_ret
      exact ⟨rfl, rfl⟩
    · have e : decide (1 ≤ m ∧ m ≤ 100) = false := by simp; omega
      have h2' : decide ((m : Int) ≤ 100) = false := by simp; omega
      rw [e]
      clear e
      go_enter Tryz.func98, Tryz.ntmps98
      go_wp2_with fail
      go_ret
      exact ⟨rfl, rfl⟩
  · have e : decide (1 ≤ m ∧ m ≤ 100) = false := by simp; omega
    rw [e]
    clear e
    go_enter Tryz.func98, Tryz.ntmps98
    go_wp2_with fail
    go_ret
    exact ⟨rfl, rfl⟩
theorem isOpType_any (t : Int) (w : World) : Calls Tryz.prog 99 #[.int .i64 t] w fun e w' => e = .returned (.bool (decide (0 ≤ t ∧ t ≤ 6))) ∧ w' = w := by
  by_cases h1 : 0 ≤ t
  · by_cases h2 : t ≤ 6
    · have e : decide (0 ≤ t ∧ t ≤ 6) = true := by simp [h1, h2]
      rw [e]
      clear e
      go_enter Tryz.func99, Tryz.ntmps99
      go_wp2_with fail
      go_ret
      exact ⟨rfl, rfl⟩
    · have e : decide (0 ≤ t ∧ t ≤ 6) = false := by simp; omega
      rw [e]
      clear e
      go_enter Tryz.func99, Tryz.ntmps99
      go_wp2_with fail
      go_ret
      exact ⟨rfl, rfl⟩
  · have e : decide (0 ≤ t ∧ t ≤ 6) = false := by simp; omega
    rw [e]
    clear e
    go_enter Tryz.func99, Tryz.ntmps99
    go_wp2_with fail
    go_ret
    exact ⟨rfl, rfl⟩
theorem isNaNo_any (x : Int) (w : World) : Calls Tryz.prog 125 #[.int .i64 x] w fun e w' => e = .returned (.bool false) ∧ w' = w := by
  go_enter Tryz.func125, Tryz.ntmps125
  go_wp2_with fail
  go_ret
  exact ⟨rfl, rfl⟩
theorem compareO_any (x y : Int) (w : World) : Calls Tryz.prog 103 #[.int .i64 x, .int .i64 y] w fun e w' => e = .returned (.int .i64 (cmpI x y)) ∧ w' = w := by
  have H1 := isNaNo_any x w
  have H2 := isNaNo_any y w
  have FIN : Hid (∀ c, c = cmpI x y → Ending.returned (.int .i64 c) = .returned (.int .i64 (cmpI x y))) := fun c h => ret_int h
  by_cases h1 : x < y
  · have HF : Hid _ := FIN.out (-1) (by rw [cmpI, if_pos h1])
    go_enter Tryz.func103, Tryz.ntmps103
    go_wp2_with fail
    refine H1.mono ?_
    rintro e w1 ⟨rfl, rfl⟩
    go_wp2_with fail
    refine H2.mono ?_
    rintro e w1 ⟨rfl, rfl⟩
    go_wp2_with fail
    go_ret
    exact ⟨HF.out, rfl⟩
  · by_cases h2 : y < x
    · have HF : Hid _ := FIN.out 1 (by rw [cmpI, if_neg h1, if_pos h2])
      go_enter Tryz.func103, Tryz.ntmps103
      go_wp2_with fail
      refine H1.mono ?_
      rintro e w1 ⟨rfl, rfl⟩
      go_wp2_with fail
      refine H2.mono ?_
      rintro e w1 ⟨rfl, rfl⟩
      go_wp2_with fail
      go_ret
      exact ⟨HF.out, rfl⟩
    · have HF : Hid _ := FIN.out 0 (by rw [cmpI, if_neg h1, if_neg h2])
      go_enter Tryz.func103, Tryz.ntmps103
      go_wp2_with fail
      refine H1.mono ?_
      rintro e w1 ⟨rfl, rfl⟩
      go_wp2_with fail
      refine H2.mono ?_
      rintro e w1 ⟨rfl, rfl⟩
      go_wp2_with fail
      go_ret
      exact ⟨HF.out, rfl⟩
theorem compareBytes_eq : ∀ l m : List UInt8, Lib.compareBytes l m = if Op.bytesLess l m then -1 else if l == m then 0 else 1
  | [], [] => by simp [Lib.compareBytes, Op.bytesLess]
  | [], _ :: _ => by simp [Lib.compareBytes, Op.bytesLess]
  | _ :: _, [] => by simp [Lib.compareBytes, Op.bytesLess]
  | a :: x, b :: y => by
    have ih := compareBytes_eq x y
    simp only [Lib.compareBytes, Op.bytesLess, ih]
    by_cases h1 : a < b
    · simp [h1]
    · by_cases h2 : b < a
      · have hne : ¬ a = b := fun e => by subst e; exact h1 h2
        simp [h1, h2, hne]
      · have e : a = b := by rw [u8_lt] at h1 h2; rw [u8_eq]; omega
        subst e
        simp
theorem run_bytesOf {w : World} {p : Option Addr} {xs : List Int} (h : BIn w p xs) (m cap : Nat) (hm : m = xs.length) : (Extern.Bytes.bytesOf (.slice p m cap)).run Tryz.prog w = .ok (strOfNums xs) w := by
  subst hm
  by_cases hn : 0 < xs.length
  · obtain ⟨b, o, rfl, hc⟩ := h hn
    have hl := Lib.run_loadBytesX (P := Tryz.prog) w xs ⟨b, o, none⟩ .empty (fun j x hj => by
      have hjl : j < xs.length := (List.getElem?_eq_some_iff.1 hj).1
      have e : (⟨b, o, none⟩ : Addr).add j = ⟨b, o + j, none⟩ := by unfold Addr.add; split <;> simp_all
      rw [e, hc j hjl, List.getD_eq_getElem?_getD, hj]
      rfl)
    simp only [Extern.Bytes.bytesOf]
    rw [hl]
    congr 1
    apply ByteArray.ext
    show (#[] : Array UInt8) ++ (Lib.bytesOf xs).toArray = (strOfNums xs).data
    simp [Lib.bytesOf, strOfNums]
  · obtain rfl : xs = [] := by cases xs with | nil => rfl | cons a r => simp at hn
    cases p with
    | none => simp [Extern.Bytes.bytesOf]; rfl
    | some a => simp [Extern.Bytes.bytesOf, Extern.Bytes.loadBytes]; rfl
theorem run_compareS {w : World} {p q : Option Addr} {xs ys : List Int} (hx : BIn w p xs) (hy : BIn w q ys) (m n c1 c2 : Nat) (hm : m = xs.length) (hn : n = ys.length) :
    (Extern.BytealgCompare.compare #[.slice p m c1, .slice q n c2]).run Tryz.prog w = .ok (.int .i64 (cmpS (strOfNums xs) (strOfNums ys))) w := by
  change Sem.run Tryz.prog (do pure (goInt (Extern.BytealgCompare.cmp (← Extern.Bytes.bytesOf (.slice p m c1)) (← Extern.Bytes.bytesOf (.slice q n c2))))) w = _
  simp only [Sem.run_bind, run_bytesOf hx m c1 hm, run_bytesOf hy n c2 hn, Sem.run_pure, Result.andThen]
  rw [Lib.cmp_eq, compareBytes_eq, cmpS, ByteArray.toList_eq, ByteArray.toList_eq]
  rfl
set_option maxRecDepth 100000 in
theorem bytesCompare_any (p q : Option Addr) (m n c1 c2 : Nat) (xs ys : List Int) (w : World) (hm : m = xs.length) (hn : n = ys.length) (hx : BIn w p xs) (hy : BIn w q ys) :
    Calls Tryz.prog 102 #[.slice p m c1, .slice q n c2] w fun e w' => e = .returned (.int .i64 (cmpS (strOfNums xs) (strOfNums ys))) ∧ w' = w := by
  have hr := run_compareS hx hy m n c1 c2 hm hn
  clear hx hy hm hn
  generalize cmpS (strOfNums xs) (strOfNums ys) = r at hr ⊢
  go_enter Tryz.func102, Tryz.ntmps102
  go_wp2_with fail
  rw [run_callFunc_extern Tryz.func124 (by kernel_rfl) (by kernel_rfl) (by kernel_rfl) (e := Extern.BytealgCompare.compare) (by kernel_rfl), hr]
  simp only [Result.andThen]
  rw [Oper.upon_value]
  go_wp2_with fail
  go_ret
  exact ⟨rfl, rfl⟩
end Go.Proofs.YtjhbplgppakhoaaGreatDoor

namespace Go.Proofs.YtjhbplgppakhoaaGreatDoor
open Go Go.RowKit Go.Sort
set_option linter.unusedVariables false
def opCmp (x y : Cel) : Int := orI (cmpS (strOfNums x.2.2) (strOfNums y.2.2)) (cmpI (srt x.2.1) (srt y.2.1))
set_option maxRecDepth 100000 in
set_option maxHeartbeats 1000000 in
theorem compareOps_any (k1 n1 k2 n2 : Int) (p q : Option Addr) (m1 m2 c1 c2 : Nat) (xs ys : List Int) (w : World) (hl1 : m1 = xs.length) (hl2 : m2 = ys.length) (hx : BIn w p xs) (hy : BIn w q ys) :
    Calls Tryz.prog 67 #[.agg #[.slice p m1 c1, .int .i64 k1, .int .i64 n1], .agg #[.slice q m2 c2, .int .i64 k2, .int .i64 n2]] w fun e w' => e = .returned (.int .i64 (opCmp (k1, n1, xs) (k2, n2, ys))) ∧ ∃ q os', w' = grow (w.drewN q) os' := by
  have hC : ∀ W, Below w.heap.size w W → Calls Tryz.prog 102 #[.slice p m1 c1, .slice q m2 c2] W fun e w' => e = .returned (.int .i64 (cmpS (strOfNums xs) (strOfNums ys))) ∧ w' = W := fun W hW => bytesCompare_any p q m1 m2 c1 c2 xs ys W hl1 hl2 (hx.below hW) (hy.below hW)
  have hS1 := fun W => sortOf_any n1 W
  have hS2 := fun W => sortOf_any n2 W
  have hI := fun W => compareO_any (srt n1) (srt n2) W
  rw [opCmp]
  simp only
  generalize cmpS (strOfNums xs) (strOfNums ys) = cs at hC ⊢
  generalize srt n1 = s1 at hS1 hI ⊢
  generalize srt n2 = s2 at hS2 hI ⊢
  generalize cmpI s1 s2 = ci at hI ⊢
  have hO : ∀ (b : Nat) (W : World), W.cell? ⟨b, 0, none⟩ = some (.int .i64 cs) → W.cell? ⟨b, 1, none⟩ = some (.int .i64 ci) → Calls Tryz.prog 101 #[.slice (some ⟨b, 0, none⟩) 2 2] W fun e w' => e = .returned (.int .i64 (orI cs ci)) ∧ w' = W := fun b W h0 h1 => or_any b cs ci W h0 h1
  generalize orI cs ci = co at hO ⊢
  have hb : Below w.heap.size w ((w.alloc (.cells #[.slice p m1 c1, .int .i64 k1, .int .i64 n1] 69)).alloc (.cells #[.slice q m2 c2, .int .i64 k2, .int .i64 n2] 69)) := ((Below.refl _ _).alloc (Nat.le_refl _) _).alloc (by simp) _
  have G1 : Box3 ((w.alloc (.cells #[.slice p m1 c1, .int .i64 k1, .int .i64 n1] 69)).alloc (.cells #[.slice q m2 c2, .int .i64 k2, .int .i64 n2] 69)) w.heap.size (.slice p m1 c1) (.int .i64 k1) (.int .i64 n1) := Box3.of_block (t := 69) ((Below.heap_alloc _ _ _ (by simp)).trans (heap_alloc_new _ _))
  have G2 : Box3 ((w.alloc (.cells #[.slice p m1 c1, .int .i64 k1, .int .i64 n1] 69)).alloc (.cells #[.slice q m2 c2, .int .i64 k2, .int .i64 n2] 69)) (w.heap.size + 1) (.slice q m2 c2) (.int .i64 k2) (.int .i64 n2) := Box3.of_block (t := 69) (by
    have := heap_alloc_new (w.alloc (.cells #[.slice p m1 c1, .int .i64 k1, .int .i64 n1] 69)) (.cells #[.slice q m2 c2, .int .i64 k2, .int .i64 n2] 69)
    rw [World.size_alloc] at this
    exact this)
  have HG : Hid (∃ os, (w.alloc (.cells #[.slice p m1 c1, .int .i64 k1, .int .i64 n1] 69)).alloc (.cells #[.slice q m2 c2, .int .i64 k2, .int .i64 n2] 69) = grow w os) := ⟨_, by rw [alloc_eq_grow, alloc_eq_grow, grow_grow]⟩
  have HC : Hid (∀ W, Below w.heap.size w W → _) := hC
  have HS1 : Hid _ := hS1
  have HS2 : Hid _ := hS2
  have HI : Hid _ := hI
  have HO : Hid _ := hO
  have HBW : Hid _ := hb
  have HG1 : Hid _ := G1
  have HG2 : Hid _ := G2
  clear hC hS1 hS2 hI hO hx hy hl1 hl2 hb G1 G2
  go_enter Tryz.func67, Tryz.ntmps67
  go_wp2_with fail
  obtain ⟨a0, a1, a2, _⟩ := HG1.out
  obtain ⟨b0, b1, b2, _⟩ := HG2.out
  clear HG1 HG2
  generalize (w.alloc (.cells #[.slice p m1 c1, .int .i64 k1, .int .i64 n1] 69)).alloc (.cells #[.slice q m2 c2, .int .i64 k2, .int .i64 n2] 69) = W2 at *
  go_region_held3 (fun W => (W.cell? ⟨w.heap.size, 0, none⟩ = some (.slice p m1 c1) ∧ W.cell? ⟨w.heap.size, 2, none⟩ = some (.int .i64 n1)) ∧ W.cell? ⟨w.heap.size + 1, 0, none⟩ = some (.slice q m2 c2) ∧ W.cell? ⟨w.heap.size + 1, 2, none⟩ = some (.int .i64 n2))
    (go_keep)
    (first
      | (go_at_call 102; refine (HC.out _ (by first | exact HBW.out | exact HBW.out.trans (Below.refl _ _).drew)).mono ?_; rintro e w' ⟨rfl, rfl⟩)
      | (go_at_call 103; refine (HI.out _).mono ?_; rintro e w' ⟨rfl, rfl⟩)
      | (go_at_call 104; refine (HS1.out _).mono ?_; rintro e w' ⟨rfl, rfl⟩)
      | (go_at_call 104; refine (HS2.out _).mono ?_; rintro e w' ⟨rfl, rfl⟩)
      | (go_at_call 101; refine (HO.out _ _ (by exact (pair_new _ _ _ _).1) (by exact (pair_new _ _ _ _).2)).mono ?_; rintro e w' ⟨rfl, rfl⟩))
  all_goals go_wp2_with fail
  all_goals go_ret
  obtain ⟨os, hos⟩ := HG.out
  exact ⟨rfl, 1, _, by rw [hos, alloc_eq_grow, grow_grow, drew_grow]; rfl⟩
end Go.Proofs.YtjhbplgppakhoaaGreatDoor

namespace Go.Proofs.YtjhbplgppakhoaaGreatDoor
open Go Go.RowKit
set_option linter.unusedVariables false
def okB (k n : Int) (s : ByteArray) (m : Nat) : Bool := decide (1 ≤ m ∧ m ≤ 100) && (decide (0 ≤ n ∧ n ≤ 6) && (decide (1 ≤ k ∧ k ≤ 1200) && (if s.toList == [44] then (k == 1000 && n == 1) else !resB s)))
set_option maxRecDepth 100000 in
theorem isOp_any (k n : Int) (p : Option Addr) (m cap : Nat) (xs : List Int) (w : World) (hm : m = xs.length) (hb : m ≤ 1000000000) (hx : BIn w p xs) :
    Calls Tryz.prog 66 #[.agg #[.slice p m cap, .int .i64 k, .int .i64 n]] w fun e w' => e = .returned (.bool (okB k n (strOfNums xs) m)) ∧ Below w.heap.size w w' := by
  have hB : Below w.heap.size w (w.alloc (Obj.cells #[.slice p m cap, .int .i64 k, .int .i64 n] 69)) := (Below.refl _ _).alloc (Nat.le_refl _) _
  have cv := conv_str (hx.below hB) m cap hm 9 Tryz.underlying9
  have HB : Hid _ := hB
  have HN := isOpName_any p m cap (w.alloc (Obj.cells #[.slice p m cap, .int .i64 k, .int .i64 n] 69)) hb
  have HT := isOpType_any n (w.alloc (Obj.cells #[.slice p m cap, .int .i64 k, .int .i64 n] 69))
  clear hx hm hb hB
  generalize strOfNums xs = s at cv ⊢
  have HR := isReserved_any s (w.alloc (Obj.cells #[.slice p m cap, .int .i64 k, .int .i64 n] 69))
  have HE : Hid (okB k n s m = (decide (1 ≤ m ∧ m ≤ 100) && (decide (0 ≤ n ∧ n ≤ 6) && (decide (1 ≤ k ∧ k ≤ 1200) && (if s.toList == [44] then (k == 1000 && n == 1) else !resB s))))) := rfl
  generalize resB s = r at HR HE
  generalize decide (1 ≤ m ∧ m ≤ 100) = b1 at HN HE
  generalize decide (0 ≤ n ∧ n ≤ 6) = b2 at HT HE
  have HF : Hid (∀ b, b = okB k n s m → Ending.returned (.bool b) = .returned (.bool (okB k n s m))) := fun b h => ret_bool h
  cases b1 with
  | false =>
    have HQ : Hid (okB k n s m = false) := by show _ = _; rw [HE.out]; rfl
    go_enter Tryz.func66, Tryz.ntmps66
    go_wp2_with (first | (go_at_call 98; refine HN.mono ?_; rintro e w' ⟨rfl, rfl⟩) | (go_at_call 99; refine HT.mono ?_; rintro e w' ⟨rfl, rfl⟩) | (go_at_call 100; refine HR.mono ?_; rintro e w' ⟨rfl, rfl⟩))
    go_ret
    exact ⟨HF.out _ HQ.out.symm, HB.out⟩
  | true =>
    cases b2 with
    | false =>
      have HQ : Hid (okB k n s m = false) := by show _ = _; rw [HE.out]; rfl
      go_enter Tryz.func66, Tryz.ntmps66
      go_wp2_with (first | (go_at_call 98; refine HN.mono ?_; rintro e w' ⟨rfl, rfl⟩) | (go_at_call 99; refine HT.mono ?_; rintro e w' ⟨rfl, rfl⟩) | (go_at_call 100; refine HR.mono ?_; rintro e w' ⟨rfl, rfl⟩))
      go_ret
      exact ⟨HF.out _ HQ.out.symm, HB.out⟩
    | true =>
      by_cases h3 : k < 1
      · have h3' : decide (1 ≤ k ∧ k ≤ 1200) = false := by simp; omega
        have HQ : Hid (okB k n s m = false) := by show _ = _; rw [HE.out]; rw [h3']; rfl
        go_enter Tryz.func66, Tryz.ntmps66
        go_wp2_with (first | (go_at_call 98; refine HN.mono ?_; rintro e w' ⟨rfl, rfl⟩) | (go_at_call 99; refine HT.mono ?_; rintro e w' ⟨rfl, rfl⟩) | (go_at_call 100; refine HR.mono ?_; rintro e w' ⟨rfl, rfl⟩))
        go_ret
        exact ⟨HF.out _ HQ.out.symm, HB.out⟩
      · by_cases h4 : 1200 < k
        · have h4' : decide (1 ≤ k ∧ k ≤ 1200) = false := by simp; omega
          have HQ : Hid (okB k n s m = false) := by show _ = _; rw [HE.out]; rw [h4']; rfl
          go_enter Tryz.func66, Tryz.ntmps66
          go_wp2_with (first | (go_at_call 98; refine HN.mono ?_; rintro e w' ⟨rfl, rfl⟩) | (go_at_call 99; refine HT.mono ?_; rintro e w' ⟨rfl, rfl⟩) | (go_at_call 100; refine HR.mono ?_; rintro e w' ⟨rfl, rfl⟩))
          go_ret
          exact ⟨HF.out _ HQ.out.symm, HB.out⟩
        · have h4' : decide (1 ≤ k ∧ k ≤ 1200) = true := by simp; omega
          have HE4 : Hid _ := h4'
          clear h4'
          cases h5 : (s.toList == [44]) with
          | false =>
            have HQ : Hid (okB k n s m = !r) := by show _ = _; rw [HE.out]; rw [HE4.out, h5]; simp
            go_enter Tryz.func66, Tryz.ntmps66
            go_wp2_with (first | (go_at_call 98; refine HN.mono ?_; rintro e w' ⟨rfl, rfl⟩) | (go_at_call 99; refine HT.mono ?_; rintro e w' ⟨rfl, rfl⟩) | (go_at_call 100; refine HR.mono ?_; rintro e w' ⟨rfl, rfl⟩))
            go_ret
            exact ⟨HF.out _ HQ.out.symm, HB.out⟩
          | true =>
            cases h6 : (k == 1000) with
            | false =>
              have HQ : Hid (okB k n s m = false) := by show _ = _; rw [HE.out]; rw [HE4.out, h5, h6]; simp
              go_enter Tryz.func66, Tryz.ntmps66
              go_wp2_with (first | (go_at_call 98; refine HN.mono ?_; rintro e w' ⟨rfl, rfl⟩) | (go_at_call 99; refine HT.mono ?_; rintro e w' ⟨rfl, rfl⟩) | (go_at_call 100; refine HR.mono ?_; rintro e w' ⟨rfl, rfl⟩))
              go_ret
              exact ⟨HF.out _ HQ.out.symm, HB.out⟩
            | true =>
              cases h7 : (n == 1) with
              | false =>
                have HQ : Hid (okB k n s m = false) := by show _ = _; rw [HE.out]; rw [HE4.out, h5, h6, h7]; simp
                go_enter Tryz.func66, Tryz.ntmps66
                go_wp2_with (first | (go_at_call 98; refine HN.mono ?_; rintro e w' ⟨rfl, rfl⟩) | (go_at_call 99; refine HT.mono ?_; rintro e w' ⟨rfl, rfl⟩) | (go_at_call 100; refine HR.mono ?_; rintro e w' ⟨rfl, rfl⟩))
                go_ret
                exact ⟨HF.out _ HQ.out.symm, HB.out⟩
              | true =>
                have HQ : Hid (okB k n s m = true) := by show _ = _; rw [HE.out]; rw [HE4.out, h5, h6, h7]; simp
                go_enter Tryz.func66, Tryz.ntmps66
                go_wp2_with (first | (go_at_call 98; refine HN.mono ?_; rintro e w' ⟨rfl, rfl⟩) | (go_at_call 99; refine HT.mono ?_; rintro e w' ⟨rfl, rfl⟩) | (go_at_call 100; refine HR.mono ?_; rintro e w' ⟨rfl, rfl⟩))
                go_ret
                exact ⟨HF.out _ HQ.out.symm, HB.out⟩
def ltO (a b : Cel) : Bool := decide (opCmp a b < 0)
def okC (c : Cel) : Bool := okB c.1 c.2.1 (strOfNums c.2.2) c.2.2.length
def comC (c : Cel) : Bool := (strOfNums c.2.2).toList == [44]
def chainO : Option Cel → List Cel → Bool
  | _, [] => true
  | a, c :: r => okC c && (match a with | none => true | some x => ltO x c) && chainO (some c) r
def tabB (cs : List Cel) : Bool := decide (cs.length ≤ 200) && (chainO none cs && cs.any comC)
def befO (cs : List Cel) (k : Nat) : Option Cel := if k = 0 then none else some (cs.getD (k - 1) Cel.none)
theorem chainO_at (cs : List Cel) (k : Nat) (h : k < cs.length) : chainO (befO cs k) (cs.drop k) = (okC (cs.getD k Cel.none) && (match befO cs k with | none => true | some x => ltO x (cs.getD k Cel.none)) && chainO (befO cs (k + 1)) (cs.drop (k + 1))) := by
  have e : befO cs (k + 1) = some (cs.getD k Cel.none) := by simp [befO]
  rw [drop_at cs k h, e]
  generalize befO cs k = a
  cases a <;> rfl
theorem opCmp_lt (x y : Cel) : opCmp x y < 0 ↔ Op.bytesLess (strOfNums x.2.2).toList (strOfNums y.2.2).toList = true ∨ ((strOfNums x.2.2).toList = (strOfNums y.2.2).toList ∧ srt x.2.1 < srt y.2.1) := by
  unfold opCmp orI cmpI cmpS
  cases h1 : Op.bytesLess (strOfNums x.2.2).toList (strOfNums y.2.2).toList with
  | true => simp
  | false =>
    by_cases e : (strOfNums x.2.2).toList = (strOfNums y.2.2).toList
    · simp only [e]
      simp
      split
      · simp; omega
      · split <;> simp <;> omega
    · simp [e]
theorem ltO_trans {x y z : Cel} (h1 : ltO x y = true) (h2 : ltO y z = true) : ltO x z = true := by
  simp only [ltO, decide_eq_true_eq, opCmp_lt] at *
  rcases h1 with h1 | ⟨h1, h1'⟩ <;> rcases h2 with h2 | ⟨h2, h2'⟩
  · exact .inl (bl_trans _ _ _ h1 h2)
  · exact .inl (h2 ▸ h1)
  · exact .inl (h1 ▸ h2)
  · exact .inr ⟨h1.trans h2, by omega⟩
theorem com_srt {c : Cel} (h : okC c = true) (hc : comC c = true) : srt c.2.1 = 1 := by
  simp only [okC, okB, Bool.and_eq_true] at h
  rw [comC] at hc
  rw [if_pos hc] at h
  simp only [Bool.and_eq_true, beq_iff_eq] at h
  rw [h.2.2.2.2]; decide
theorem com_not_lt {x y : Cel} (hx : okC x = true) (hy : okC y = true) (cx : comC x = true) (cy : comC y = true) : ltO x y = false := by
  rw [ltO, decide_eq_false_iff_not, opCmp_lt]
  have ex : (strOfNums x.2.2).toList = [44] := by simpa [comC] using cx
  have ey : (strOfNums y.2.2).toList = [44] := by simpa [comC] using cy
  rw [ex, ey, bl_irrefl, com_srt hx cx, com_srt hy cy]
  simp
theorem chainO_all : ∀ (cs : List Cel) (a : Cel), chainO (some a) cs = true → ∀ c ∈ cs, ltO a c = true ∧ okC c = true
  | [], a, _, c, hc => by cases hc
  | x :: r, a, h, c, hc => by
    simp only [chainO, Bool.and_eq_true] at h
    rcases List.mem_cons.1 hc with rfl | hc
    · exact ⟨h.1.2, h.1.1⟩
    · have := chainO_all r x h.2 c hc
      exact ⟨ltO_trans h.1.2 this.1, this.2⟩
theorem com_count : ∀ (cs : List Cel) (a : Option Cel), chainO a cs = true → cs.countP comC = if cs.any comC then 1 else 0
  | [], _, _ => rfl
  | x :: r, a, h => by
    simp only [chainO, Bool.and_eq_true] at h
    have ih := com_count r (some x) h.2
    rw [List.countP_cons, ih]
    cases hx : comC x with
    | false => rw [List.any_cons, hx]; cases r.any comC <;> simp
    | true =>
      have : r.any comC = false := by
        rw [List.any_eq_false]
        intro c hc hcc
        have := chainO_all r x h.2 c hc
        rw [com_not_lt h.1.1 this.2 hx hcc] at this
        cases this.1
      rw [List.any_cons, hx, this]; simp
end Go.Proofs.YtjhbplgppakhoaaGreatDoor

namespace Go.Proofs.YtjhbplgppakhoaaGreatDoor
open Go Go.RowKit
set_option linter.unusedVariables false
def keyC (c : Cel) : List UInt8 × Int := ((strOfNums c.2.2).toList, srt c.2.1)
theorem ltO_iff_key (x y : Cel) : ltO x y = true ↔ Op.bytesLess (keyC x).1 (keyC y).1 = true ∨ ((keyC x).1 = (keyC y).1 ∧ (keyC x).2 < (keyC y).2) := by
  rw [ltO, decide_eq_true_eq, opCmp_lt]; rfl
theorem ltO_key {x y : Cel} (h : ltO x y = true) : keyC x ≠ keyC y := fun e => by
  rw [ltO_iff_key, e, bl_irrefl] at h; simp at h
theorem srt_two (t : Int) : srt t = 0 ∨ srt t = 1 := by unfold srt; split <;> simp
def Asc (cs : List Cel) : Prop := cs.Pairwise (fun x y => ltO x y = true)
theorem chain_asc : ∀ (cs : List Cel) (a : Option Cel), chainO a cs = true → Asc cs
  | [], _, _ => List.Pairwise.nil
  | x :: r, a, h => by
    simp only [chainO, Bool.and_eq_true] at h
    exact List.Pairwise.cons (fun y hy => (chainO_all r x h.2 y hy).1) (chain_asc r (some x) h.2)
theorem Asc.filter {cs : List Cel} (h : Asc cs) (p : Cel → Bool) : Asc (cs.filter p) := List.Pairwise.filter p h
def hasK (cs : List Cel) (k : List UInt8 × Int) : Bool := cs.any (fun x => decide (keyC x = k))
end Go.Proofs.YtjhbplgppakhoaaGreatDoor

