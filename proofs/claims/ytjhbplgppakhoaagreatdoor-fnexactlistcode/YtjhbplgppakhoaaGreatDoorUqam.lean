/- Texts of PrP, OpsS1, Quote, Clone. Own work of the verifier. -/
import Derived.Test.YtjhbplgppakhoaaGreatDoorUqal
import Derived.Test.YtjhbplgppakhoaaGreatDoorUqai
import Derived.Test.YtjhbplgppakhoaaGreatDoorUqaf
import Derived.Test.YtjhbplgppakhoaaGreatDoorUqaa
import Derived.Test.YtjhbplgppakhoaaGreatDoorUqad
namespace Go.Proofs.YtjhbplgppakhoaaGreatDoor
open Go Go.RowKit
set_option linter.unusedVariables false
abbrev Tr := Cel × Fo
abbrev TT := Tr × Tr
def Tr.fo (t : Tr) : Fo := .node t.1 t.2 .nil
def trs : Fo → List Tr
  | .nil => []
  | .node c k r => (c, k) :: trs r
theorem trs_len : ∀ F : Fo, (trs F).length = F.count
  | .nil => rfl
  | .node c k r => by simp [trs, Fo.count, trs_len r]
def argPairs (x : TT) : List TT := ((trs x.1.2).zip (trs x.2.2)).reverse
def opened (x : TT) : List TT := if x.1.1 = x.2.1 then argPairs x else []
def Tr.ok (t : Tr) : Prop := t.fo.ok
end Go.Proofs.YtjhbplgppakhoaaGreatDoor

namespace Go.Proofs.YtjhbplgppakhoaaGreatDoor
open Go Go.RowKit
set_option linter.unusedVariables false
theorem l3infix_any (t : Int) (w : World) : Calls Tryz.prog 97 #[.int .i64 t] w fun e w' => e = .returned (.bool (decide (t ≤ 2))) ∧ w' = w := by
  cases h : decide (t ≤ 2)
  all_goals
    go_enter Tryz.func97, Tryz.ntmps97
    go_wp2_with fail
    go_ret
    exact ⟨rfl, rfl⟩
def hitB (s : List UInt8) (pf : Bool) (x : Cel) : Bool := ((strOfNums x.2.2).toList == s) && (preB x.2.1 == pf)
def fIdx (s : List UInt8) (pf : Bool) : Nat → List Cel → Int
  | _, [] => -1
  | k, x :: r => if hitB s pf x then k else fIdx s pf (k + 1) r
theorem fIdx_at (s : List UInt8) (pf : Bool) (cs : List Cel) (k : Nat) (h : k < cs.length) : fIdx s pf k (cs.drop k) = if hitB s pf (cs.getD k Cel.none) then (k : Int) else fIdx s pf (k + 1) (cs.drop (k + 1)) := by
  rw [drop_at cs k h, fIdx]
set_option maxRecDepth 100000 in
set_option maxHeartbeats 2000000 in
theorem l3find_any (p : Option Addr) (c : Nat) (cs : List Cel) (q : Option Addr) (l cq : Nat) (xs : List Int) (pf : Bool) (w : World) (hl : l = xs.length) (hn : cs.length ≤ 1000000) (hin : OIn w p cs) (hx : BIn w q xs) :
    Calls Tryz.prog 121 #[.slice p cs.length c, .slice q l cq, .bool pf] w fun e w' => e = .returned (.int .i64 (fIdx (strOfNums xs).toList pf 0 cs)) ∧ ∃ m, w' = w.drewN m := by
  have HIN : Hid (OIn w p cs) := hin
  have HX : Hid (BIn w q xs) := hx
  have HL : Hid (l = xs.length) := hl
  obtain ⟨sn, esn⟩ : ∃ s, s = strOfNums xs := ⟨_, rfl⟩
  rw [← esn]
  have HSN : Hid (sn = strOfNums xs) := esn
  clear hin hx hl esn
  have HF : Hid (∀ b, b = fIdx sn.toList pf 0 cs → Ending.returned (.int .i64 b) = .returned (.int .i64 (fIdx sn.toList pf 0 cs))) := fun b h => ret_int h
  go_enter Tryz.func121, Tryz.ntmps121
  go_wp2_with fail
  go_loopw [7] (fun i wr => ∃ k m : Nat, k ≤ cs.length ∧ i = .int .i64 k ∧ Hid (wr = w.drewN m) ∧ Hid (fIdx sn.toList pf 0 cs = fIdx sn.toList pf k (cs.drop k))) (fun i _ => cs.length - (intOf i).toNat)
  case atStart => exact ⟨0, 0, Nat.zero_le _, rfl, rfl, rfl⟩
  case round =>
    obtain ⟨k, m, hk, rfl, HW, HQ⟩ := hrel
    by_cases hlt : k < cs.length
    · obtain ⟨g, o, rfl, hcs⟩ := HIN.out (by omega)
      have hat : OAt wr g (o + k * 3) (cs.getD k Cel.none) := by rw [HW.out]; exact hcs k hlt
      have HFI : Hid _ := fIdx_at sn.toList pf cs k hlt
      have HHB : Hid (hitB sn.toList pf (cs.getD k Cel.none) = (((strOfNums (cs.getD k Cel.none).2.2).toList == sn.toList) && (preB (cs.getD k Cel.none).2.1 == pf))) := rfl
      obtain ⟨x, ex⟩ : ∃ x, x = cs.getD k Cel.none := ⟨_, rfl⟩
      rw [← ex] at hat HFI HHB
      obtain ⟨qx, qc, h0, h1, h2, h3⟩ := hat
      obtain ⟨x0, x1, x2⟩ := x
      simp only at h0 h1 h2 h3 HHB
      obtain ⟨l2, el2⟩ : ∃ l, l = x2.length := ⟨_, rfl⟩
      obtain ⟨sx, esx⟩ : ∃ s, s = strOfNums x2 := ⟨_, rfl⟩
      rw [← el2] at h2
      rw [← esx] at HHB
      have HLX : Hid (l2 = x2.length) := el2
      have HSX : Hid (sx = strOfNums x2) := esx
      have H3 : Hid (BIn wr qx x2) := h3
      have HXW : Hid (BIn wr q xs) := by rw [HW.out]; exact HX.out
      have cvx : (convert 28 9 (.slice qx l2 qc)).run Tryz.prog wr.drew = .ok (.string sx) wr.drew := by rw [HSX.out]; exact conv_str (w := wr.drew) H3.out l2 qc HLX.out 9 Tryz.underlying9
      have cvn : (convert 28 9 (.slice q l cq)).run Tryz.prog wr.drew = .ok (.string sn) wr.drew := by rw [HSN.out]; exact conv_str (w := wr.drew) HXW.out l cq HL.out 9 Tryz.underlying9
      clear el2 esx ex h3 hcs h0
      cases hs : (sx.toList == sn.toList) with
      | true =>
        cases hp : (preB x1 == pf) with
        | true =>
          have HR : Hid (fIdx sn.toList pf 0 cs = (k : Int)) := by show _ = _; rw [HQ.out, HFI.out, HHB.out, hs, hp]; rfl
          clear HFI HHB
          go_wp2_with fail
          go_region_held3 (fun W => W = wr.drew) (rfl)
            ((go_at_call 60; refine (l3prefix_any _ _).mono ?_; rintro e w' ⟨rfl, rfl⟩))
          all_goals go_wp2_with fail
          all_goals go_ret
          all_goals exact ⟨HF.out _ HR.out.symm, m + 1, by rw [HW.out]; rfl⟩
        | false =>
          have HR : Hid (fIdx sn.toList pf 0 cs = fIdx sn.toList pf (k + 1) (cs.drop (k + 1))) := by show _ = _; rw [HQ.out, HFI.out, HHB.out, hs, hp]; rfl
          clear HFI HHB
          go_wp2_with fail
          go_region_held3 (fun W => W = wr.drew) (rfl)
            ((go_at_call 60; refine (l3prefix_any _ _).mono ?_; rintro e w' ⟨rfl, rfl⟩))
          all_goals go_wp2_with fail
          all_goals go_roundw
          all_goals first
            | (simp [intOf]; omega)
            | exact ⟨k + 1, m + 1, by omega, by go_num, by rw [HW.out]; rfl, HR⟩
      | false =>
        have HR : Hid (fIdx sn.toList pf 0 cs = fIdx sn.toList pf (k + 1) (cs.drop (k + 1))) := by show _ = _; rw [HQ.out, HFI.out, HHB.out, hs]; rfl
        have HH2 : Hid (wr.cell? ⟨g, o + k * 3, none⟩ = some (.slice qx l2 qc)) := h2
        have hk0 : (0 : Int) ≤ (k : Int) := by omega
        have hk1 : (k : Int) < (cs.length : Int) := by omega
        clear HFI HHB
        go_wp2_with fail
        refine wp_region_held_drew (S := fun W => W = wr.drew) (by kernel_rfl) ?_ (fun hHeld => ?_)
        · exact rfl
        refine hTake (i := 0) (v := .slice (some ⟨g, o, none⟩) cs.length c) (some 14) (by kernel_rfl) (by kernel_rfl) (by kernel_rfl) (by kernel_rfl) (by kernel_rfl) (fun _ _ _ h => h) (fun o ho W hSw => ?y0) (by assumption) ?_
        case y0 =>
          cases ho
          simp [execOp, go_sem, Act.eval]
        simp only [Act.put, zzA, zzB, zzC]
        refine hTake (i := 1) (v := .int .i64 k) (some 15) (by kernel_rfl) (by kernel_rfl) (by kernel_rfl) (by kernel_rfl) (by kernel_rfl) (fun _ _ _ h => h) (fun o ho W hSw => ?y1) (by assumption) ?_
        case y1 =>
          cases ho
          simp [execOp, go_sem, Act.eval]
        simp only [Act.put, zzA, zzB, zzC]
        refine hTake (i := 2) (v := .pointer (some ⟨g, o + k * 3, none⟩)) (some 16) (by kernel_rfl) (by kernel_rfl) (by kernel_rfl) (by kernel_rfl) (by kernel_rfl) (fun _ _ _ h => h) (fun o ho W hSw => ?y2) (by assumption) ?_
        case y2 =>
          cases ho
          simp [execOp, go_sem, Act.eval, hk0, hk1]
        simp only [Act.put, zzA, zzB, zzC]
        refine hTake (i := 3) (v := .pointer (some ⟨g, o + k * 3, none⟩)) (some 17) (by kernel_rfl) (by kernel_rfl) (by kernel_rfl) (by kernel_rfl) (by kernel_rfl) (fun _ _ _ h => h) (fun o ho W hSw => ?y3) (by assumption) ?_
        case y3 =>
          cases ho
          simp [execOp, go_sem, Act.eval]
        simp only [Act.put, zzA, zzB, zzC]
        refine hTake (i := 4) (v := .slice qx l2 qc) (some 18) (by kernel_rfl) (by kernel_rfl) (by kernel_rfl) (by kernel_rfl) (by kernel_rfl) (fun _ _ _ h => h) (fun o ho W hSw => ?y4) (by assumption) ?_
        case y4 =>
          cases ho
          subst hSw
          simp [execOp, go_sem, Act.eval, h2]
        simp only [Act.put, zzA, zzB, zzC]
        refine hTake (i := 5) (v := .string sx) (some 19) (by kernel_rfl) (by kernel_rfl) (by kernel_rfl) (by kernel_rfl) (by kernel_rfl) (fun _ _ _ h => h) (fun o ho W hSw => ?y5) (by assumption) ?_
        case y5 =>
          cases ho
          subst hSw
          simp [execOp, go_sem, Act.eval, cvx]
        simp only [Act.put, zzA, zzB, zzC]
        refine hTake (i := 6) (v := .slice q l cq) (some 20) (by kernel_rfl) (by kernel_rfl) (by kernel_rfl) (by kernel_rfl) (by kernel_rfl) (fun _ _ _ h => h) (fun o ho W hSw => ?y6) (by assumption) ?_
        case y6 =>
          cases ho
          simp [execOp, go_sem, Act.eval]
        simp only [Act.put, zzA, zzB, zzC]
        refine hTake (i := 7) (v := .string sn) (some 21) (by kernel_rfl) (by kernel_rfl) (by kernel_rfl) (by kernel_rfl) (by kernel_rfl) (fun _ _ _ h => h) (fun o ho W hSw => ?y7) (by assumption) ?_
        case y7 =>
          cases ho
          subst hSw
          simp [execOp, go_sem, Act.eval, cvn]
        simp only [Act.put, zzA, zzB, zzC]
        refine hTake (i := 8) (v := .bool false) (some 22) (by kernel_rfl) (by kernel_rfl) (by kernel_rfl) (by kernel_rfl) (by kernel_rfl) (fun _ _ _ h => h) (fun o ho W hSw => ?y8) (by assumption) ?_
        case y8 =>
          cases ho
          simp [execOp, go_sem, Act.eval, hs]
        simp only [Act.put, zzA, zzB, zzC]
        refine hTake (i := 9) (v := .bool false) (some 23) (by kernel_rfl) (by kernel_rfl) (by kernel_rfl) (by kernel_rfl) (by kernel_rfl) (fun _ _ _ h => h) (fun o ho W hSw => ?y9) (by assumption) ?_
        case y9 =>
          cases ho
          simp [execOp, go_sem, Act.eval]
        simp only [Act.put, zzA, zzB, zzC]
        refine hSkip (i := 10) (some 24) (by kernel_rfl) (by kernel_rfl) (by kernel_rfl) (by kernel_rfl) (by kernel_rfl) (fun _ _ _ h => h) (by assumption) ?_
        simp only [Act.put, zzA, zzB, zzC]
        refine hSkip (i := 11) (some 25) (by kernel_rfl) (by kernel_rfl) (by kernel_rfl) (by kernel_rfl) (by kernel_rfl) (fun _ _ _ h => h) (by assumption) ?_
        simp only [Act.put, zzA, zzB, zzC]
        refine hSkip (i := 12) (some 26) (by kernel_rfl) (by kernel_rfl) (by kernel_rfl) (by kernel_rfl) (by kernel_rfl) (fun _ _ _ h => h) (by assumption) ?_
        simp only [Act.put, zzA, zzB, zzC]
        refine hSkip (i := 13) (some 27) (by kernel_rfl) (by kernel_rfl) (by kernel_rfl) (by kernel_rfl) (by kernel_rfl) (fun _ _ _ h => h) (by assumption) ?_
        simp only [Act.put, zzA, zzB, zzC]
        refine hSkip (i := 14) (some 28) (by kernel_rfl) (by kernel_rfl) (by kernel_rfl) (by kernel_rfl) (by kernel_rfl) (fun _ _ _ h => h) (by assumption) ?_
        simp only [Act.put, zzA, zzB, zzC]
        refine hSkip (i := 15) (some 29) (by kernel_rfl) (by kernel_rfl) (by kernel_rfl) (by kernel_rfl) (by kernel_rfl) (fun _ _ _ h => h) (by assumption) ?_
        simp only [Act.put, zzA, zzB, zzC]
        refine hSkip (i := 16) (some 30) (by kernel_rfl) (by kernel_rfl) (by kernel_rfl) (by kernel_rfl) (by kernel_rfl) (fun _ _ _ h => h) (by assumption) ?_
        simp only [Act.put, zzA, zzB, zzC]
        refine hSkip (i := 17) (some 31) (by kernel_rfl) (by kernel_rfl) (by kernel_rfl) (by kernel_rfl) (by kernel_rfl) (fun _ _ _ h => h) (by assumption) ?_
        simp only [Act.put, zzA, zzB, zzC]
        refine hTake (i := 18) (v := .bool false) (some 32) (by kernel_rfl) (by kernel_rfl) (by kernel_rfl) (by kernel_rfl) (by kernel_rfl) (fun _ _ _ h => h) (fun o ho W hSw => ?y18) (by assumption) ?_
        case y18 =>
          cases ho
          simp [execOp, go_sem, Act.eval]
        simp only [Act.put, zzA, zzB, zzC]
        refine wpAnyH_done (by kernel_rfl) ?_ _
        go_wp2_with fail
        go_roundw
        case rel => exact ⟨k + 1, m + 1, by omega, by go_num, by rw [HW.out]; rfl, HR⟩
        case measure => simp [intOf]; omega
    · obtain rfl : k = cs.length := by omega
      have HR : Hid (fIdx sn.toList pf 0 cs = -1) := by have := HQ.out; rw [List.drop_length] at this; exact this
      clear HIN
      go_wp2_with fail
      go_ret
      exact ⟨HF.out _ HR.out.symm, m, HW.out⟩
end Go.Proofs.YtjhbplgppakhoaaGreatDoor

namespace Go.Proofs.YtjhbplgppakhoaaGreatDoor
open Go Go.RowKit
set_option linter.unusedVariables false
def hexL : List Int := [48, 49, 50, 51, 52, 53, 54, 55, 56, 57, 97, 98, 99, 100, 101, 102]
def hexD (k : Int) : Int := hexL.getD k.toNat 0
def q1 (c : Int) : List Int :=
  if c = 39 ∨ c = 92 then [92, c] else if c = 10 then [92, 110] else if c = 9 then [92, 116]
  else if c < 32 ∨ 126 < c then [92, 120, hexD (c / 16), hexD (c % 16), 92] else [c]
theorem hex_fin : ∀ k : Fin 16, ((((⟨#[48, 49, 50, 51, 52, 53, 54, 55, 56, 57, 97, 98, 99, 100, 101, 102]⟩ : ByteArray)[k.1]'k.2).toNat : Nat) : Int) = hexL.getD k.1 0 := by decide +kernel
theorem hex_at (x : Int) (h : x.toNat < (⟨#[48, 49, 50, 51, 52, 53, 54, 55, 56, 57, 97, 98, 99, 100, 101, 102]⟩ : ByteArray).size) : ((((⟨#[48, 49, 50, 51, 52, 53, 54, 55, 56, 57, 97, 98, 99, 100, 101, 102]⟩ : ByteArray)[x.toNat]'h).toNat : Nat) : Int) = hexD x := hex_fin ⟨x.toNat, h⟩
theorem and15_all : (List.range 256).all (fun c => bits BinOp.and .u8 c 15 == (c : Int) % 16) = true := by decide +kernel
theorem and15 {c : Int} (h0 : 0 ≤ c) (h1 : c < 256) : bits BinOp.and .u8 c 15 = c % 16 := by
  have h := List.all_eq_true.1 and15_all c.toNat (by simp; omega)
  rw [show ((c.toNat : Nat) : Int) = c by omega] at h
  simpa using h
theorem news2 (w : World) (a b : Int) : ∀ j u, (([a, b] : List Int).map (Value.int .u8))[j]? = some u → (w.alloc (.cells #[.int .u8 a, .int .u8 b] 5)).cell? ((⟨w.heap.size, 0, none⟩ : Addr).add j) = some u :=
  World.news_of_block (cs := #[.int .u8 a, .int .u8 b]) (heap_alloc_new w _)
theorem news1 (w : World) (a : Int) : ∀ j u, (([a] : List Int).map (Value.int .u8))[j]? = some u → (w.alloc (.cells #[.int .u8 a] 5)).cell? ((⟨w.heap.size, 0, none⟩ : Addr).add j) = some u :=
  World.news_of_block (cs := #[.int .u8 a]) (heap_alloc_new w _)
theorem news5 (w : World) (a b c d e : Int) : ∀ j u, (([a, b, c, d, e] : List Int).map (Value.int .u8))[j]? = some u → (w.alloc (.cells #[.int .u8 a, .int .u8 b, .int .u8 c, .int .u8 d, .int .u8 e] 5)).cell? ((⟨w.heap.size, 0, none⟩ : Addr).add j) = some u :=
  World.news_of_block (cs := #[.int .u8 a, .int .u8 b, .int .u8 c, .int .u8 d, .int .u8 e]) (heap_alloc_new w _)
set_option maxRecDepth 100000 in
theorem appendQuoted_any (B : Nat) (p : Option Addr) (n c : Nat) (ys : List Int) (x : Int) (w : World) (hn : n ≤ 100000000) (h0 : 0 ≤ x) (h1 : x < 256) (hown : OwnS w B p n c ys) (hB : B ≤ w.heap.size) :
    Calls Tryz.prog 129 #[.slice p n c, .int .u8 x] w fun e w' => ∃ p' n' c', e = .returned (.slice p' n' c') ∧ OwnS w' B p' n' c' (ys ++ q1 x) ∧ Below B w w' := by
  have HO : Hid (OwnS w B p n c ys) := hown
  clear hown
  by_cases a1 : x = 39
  · subst a1
    rw [show q1 39 = [92, 39] from rfl]
    go_enter Tryz.func129, Tryz.ntmps129
    go_wp2_with (at_builtin; refine app_bytes _ rfl _ _ rfl B p n c ys [92, 39] 2 rfl rfl (HO.out.alloc _) _ 2 rfl (news2 _ _ _) (by decide) (by omega) (by simp; omega) ?_; intro g n' cap w1 hown1 hb1 hn1)
    go_ret
    exact ⟨_, _, _, rfl, hown1, ((Below.refl _ _).alloc hB _).trans hb1⟩
  by_cases a2 : x = 92
  · subst a2
    rw [show q1 92 = [92, 92] from rfl]
    clear a1
    go_enter Tryz.func129, Tryz.ntmps129
    go_wp2_with (at_builtin; refine app_bytes _ rfl _ _ rfl B p n c ys [92, 92] 2 rfl rfl (HO.out.alloc _) _ 2 rfl (news2 _ _ _) (by decide) (by omega) (by simp; omega) ?_; intro g n' cap w1 hown1 hb1 hn1)
    go_ret
    exact ⟨_, _, _, rfl, hown1, ((Below.refl _ _).alloc hB _).trans hb1⟩
  by_cases a3 : x = 10
  · subst a3
    rw [show q1 10 = [92, 110] from rfl]
    clear a1 a2
    go_enter Tryz.func129, Tryz.ntmps129
    go_wp2_with (at_builtin; refine app_bytes _ rfl _ _ rfl B p n c ys [92, 110] 2 rfl rfl (HO.out.alloc _) _ 2 rfl (news2 _ _ _) (by decide) (by omega) (by simp; omega) ?_; intro g n' cap w1 hown1 hb1 hn1)
    go_ret
    exact ⟨_, _, _, rfl, hown1, ((Below.refl _ _).alloc hB _).trans hb1⟩
  by_cases a4 : x = 9
  · subst a4
    rw [show q1 9 = [92, 116] from rfl]
    clear a1 a2 a3
    go_enter Tryz.func129, Tryz.ntmps129
    go_wp2_with (at_builtin; refine app_bytes _ rfl _ _ rfl B p n c ys [92, 116] 2 rfl rfl (HO.out.alloc _) _ 2 rfl (news2 _ _ _) (by decide) (by omega) (by simp; omega) ?_; intro g n' cap w1 hown1 hb1 hn1)
    go_ret
    exact ⟨_, _, _, rfl, hown1, ((Below.refl _ _).alloc hB _).trans hb1⟩
  have t1 : (x == 39) = false := by simpa using a1
  have t2 : (x == 92) = false := by simpa using a2
  have t3 : (x == 10) = false := by simpa using a3
  have t4 : (x == 9) = false := by simpa using a4
  by_cases a5 : 32 ≤ x ∧ x ≤ 126
  · have e : q1 x = [x] := by unfold q1; rw [if_neg (by omega), if_neg (by omega), if_neg (by omega), if_neg (by omega)]
    rw [e]
    have t5 : decide (x < 32) = false := by rw [decide_eq_false_iff_not]; omega
    have t6 : decide (126 < x) = false := by rw [decide_eq_false_iff_not]; omega
    clear a1 a2 a3 a4 a5 e
    go_enter Tryz.func129, Tryz.ntmps129
    go_wp2_with (at_builtin; refine app_bytes _ rfl _ _ rfl B p n c ys [x] 1 rfl rfl (HO.out.alloc _) _ 1 rfl (news1 _ _) (by decide) (by omega) (by simp; omega) ?_; intro g n' cap w1 hown1 hb1 hn1)
    go_ret
    exact ⟨_, _, _, rfl, hown1, ((Below.refl _ _).alloc hB _).trans hb1⟩
  have e : q1 x = [92, 120, hexD (x / 16), hexD (x % 16), 92] := by unfold q1; rw [if_neg (by omega), if_neg (by omega), if_neg (by omega), if_pos (by omega)]
  rw [e]
  clear e
  by_cases a6 : x < 32
  · have t5 : decide (x < 32) = true := by rw [decide_eq_true_iff]; omega
    have h15 := and15 h0 h1
    clear a1 a2 a3 a4 a5
    go_enter Tryz.func129, Tryz.ntmps129
    go_wp2
    go_region_held3 (fun _ => True) (trivial) ((refine step_app_bytes _ (by rfl) _ _ (by rfl) B p n c ys [92, 120, _, _, 92] 5 rfl (by rfl) (HO.out.alloc _) _ 5 (by rfl) (news5 _ _ _ _ _ _) (by decide) (by omega) (by simp; omega) ?_; intro g n' cap w1 hown1 hb1 hn1))
    all_goals go_wp2
    all_goals go_ret
    all_goals rw [hex_at, hex_at] at hown1
    all_goals exact ⟨_, _, _, rfl, hown1, ((Below.refl _ _).alloc hB _).drew.trans hb1⟩
  · have t5 : decide (x < 32) = false := by rw [decide_eq_false_iff_not]; omega
    have t6 : decide (126 < x) = true := by rw [decide_eq_true_iff]; omega
    have h15 := and15 h0 h1
    clear a1 a2 a3 a4 a5 a6
    go_enter Tryz.func129, Tryz.ntmps129
    go_wp2
    go_region_held3 (fun _ => True) (trivial) ((refine step_app_bytes _ (by rfl) _ _ (by rfl) B p n c ys [92, 120, _, _, 92] 5 rfl (by rfl) (HO.out.alloc _) _ 5 (by rfl) (news5 _ _ _ _ _ _) (by decide) (by omega) (by simp; omega) ?_; intro g n' cap w1 hown1 hb1 hn1))
    all_goals go_wp2
    all_goals go_ret
    all_goals rw [hex_at, hex_at] at hown1
    all_goals exact ⟨_, _, _, rfl, hown1, ((Below.refl _ _).alloc hB _).drew.trans hb1⟩
end Go.Proofs.YtjhbplgppakhoaaGreatDoor

namespace Go.Proofs.YtjhbplgppakhoaaGreatDoor
open Go Go.RowKit
set_option linter.unusedVariables false
theorem news_ofS {w : World} {b o : Nat} {xs : List Int} (hc : ∀ i, i < xs.length → w.cell? ⟨b, o + i, none⟩ = some (.int .u8 (xs.getD i 0))) : ∀ j u, (xs.map (Value.int .u8))[j]? = some u → w.cell? ((⟨b, o, none⟩ : Addr).add j) = some u := fun j u hu => by
  have hj : j < xs.length := by
    rcases Nat.lt_or_ge j xs.length with h | h
    · exact h
    · simp [List.getElem?_eq_none h] at hu
  have e : (⟨b, o, none⟩ : Addr).add j = ⟨b, o + j, none⟩ := by unfold Addr.add; split <;> simp_all
  rw [e, hc j hj, ← hu]
  simp [List.getD, hj]
theorem l1copy_any (b o n c : Nat) (xs : List Int) (w : World) (hn : n = xs.length) (h0 : 0 < n) (hm : n ≤ 1000000) (hc : ∀ i, i < xs.length → w.cell? ⟨b, o + i, none⟩ = some (.int .u8 (xs.getD i 0))) :
    Calls Tryz.prog 78 #[.slice (some ⟨b, o, none⟩) n c] w fun e w' => ∃ p' n' c', e = .returned (.slice p' n' c') ∧ OwnS w' w.heap.size p' n' c' xs ∧ Below w.heap.size w w' := by
  have HC : Hid (∀ i, i < xs.length → w.cell? ⟨b, o + i, none⟩ = some (.int .u8 (xs.getD i 0))) := hc
  have HN : Hid (n = xs.length) := hn
  clear hc hn
  go_enter Tryz.func78, Tryz.ntmps78
  go_wp2_with (at_builtin; refine app_bytes _ rfl _ _ rfl w.heap.size none 0 0 [] xs n HN.out rfl (OwnS.nil _ _) _ c rfl (news_ofS HC.out) h0 (by omega) (Nat.le_refl _) ?_; intro g n' cap w1 hown1 hb1 hn1)
  go_ret
  exact ⟨_, _, _, rfl, hown1, hb1⟩
theorem clone_any (b o n c : Nat) (xs : List Int) (w : World) (hn : n = xs.length) (h0 : 0 < n) (hm : n ≤ 1000000) (hc : ∀ i, i < xs.length → w.cell? ⟨b, o + i, none⟩ = some (.int .u8 (xs.getD i 0))) :
    Calls Tryz.prog 128 #[.slice (some ⟨b, o, none⟩) n c] w fun e w' => ∃ p' n' c', e = .returned (.slice p' n' c') ∧ OwnS w' w.heap.size p' n' c' xs ∧ Below w.heap.size w w' := by
  have HC : Hid (∀ o' i, i < xs.length → (w.alloc o').cell? ⟨b, o + i, none⟩ = some (.int .u8 (xs.getD i 0))) := fun o' i hi => Lib.cell?_alloc_marked o' (hc i hi)
  have HN : Hid (n = xs.length) := hn
  clear hc hn
  have hnil : ∀ (w : World) (a : Option Addr) (n c n' c' : Nat), (binOp .eql 28 (.slice a n c) (.slice none n' c')).run Tryz.prog w = .ok (.bool a.isNone) w := fun w a n c n' c' => Lib.run_eql_slice_nil w _ _ a n c n' c' Tryz.underlying28
  go_enter Tryz.func128, Tryz.ntmps128
  go_wp2_with (at_builtin; refine app_bytes _ rfl _ _ rfl w.heap.size _ 0 _ [] xs n HN.out rfl ⟨rfl, World.ownsRow_lit w #[] 0 (Nat.le_refl _) (Nat.zero_le _) rfl⟩ _ c rfl (news_ofS (HC.out _)) h0 (by omega) (by simp) ?_; intro g n' cap w1 hown1 hb1 hn1)
  go_ret
  exact ⟨_, _, _, rfl, hown1, ((Below.refl _ _).alloc (Nat.le_refl _) _).trans hb1⟩
end Go.Proofs.YtjhbplgppakhoaaGreatDoor

