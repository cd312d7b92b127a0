/- The scanner: escapes and characters. Own work of the verifier. -/
import Derived.Test.YtfhelmhcmfpedaaDoorScan5
namespace Go.Proofs.YtfhelmhcmfpedaaDoor
open Go Go.RowKit
set_option linter.unusedVariables false
set_option linter.unusedSimpArgs false

/-- An escape, at_ being the place of its backslash. -/
def escF (x : Int) (xs : List Int) (at_ : Nat) : Option (Int × Nat) :=
  if x = 92 then some (92, at_ + 2) else if x = 39 then some (39, at_ + 2) else if x = 34 then some (34, at_ + 2) else if x = 110 then some (10, at_ + 2) else if x = 116 then some (9, at_ + 2)
  else if x = 114 then some (13, at_ + 2) else if x = 120 then hexI xs (at_ + 2) else none
def escI (xs : List Int) (at_ : Nat) : Option (Int × Nat) := escF (byteI xs (at_ + 1)) xs at_

theorem orFault_of {w w' : World} {pos : Nat} {e : Ending} {r r' : Option (Int × Nat)} (h : OrFault w pos r e w') (er : r' = r) : OrFault w pos r' e w' := er ▸ h

set_option maxRecDepth 100000 in
theorem escape_any (S b n c pos : Nat) (xs : List Int) (at_ : Nat) (w : World) (E : Env w S b n c pos xs) (ha : at_ ≤ 10005) :
    Calls Tryd.prog 69 #[.pointer (some ⟨S, 0, none⟩), .int .i64 at_] w fun e w' => OrFault w pos (escI xs at_) e w' := by
  have HE : Hid (Env w S b n c pos xs) := E
  have hr := byteI_rng E.bytes (at_ + 1)
  obtain ⟨x, ex⟩ : ∃ x, x = byteI xs (at_ + 1) := ⟨_, rfl⟩
  rw [← ex] at hr
  have HI : Hid (escI xs at_ = escF x xs at_) := by show _ = _; rw [ex]; rfl
  have HX : Hid (byteI xs (at_ + 1) = x) := ex.symm
  clear E ex
  by_cases t1 : x = 92
  · have HF : Hid (escI xs at_ = some (92, at_ + 2)) := by show _ = _; rw [HI.out]; unfold escF; simp [t1]
    subst t1
    clear HI
    go_enter Tryd.func69, Tryd.ntmps69
    go_wp2_with (go_at_call 52; refine (byteAt_any S b n c xs (at_ + 1) _ HE.out.bytes HE.out.len (by have := HE.out.small; omega) (by omega) HE.out.src HE.out.row).mono ?_; rintro e w' ⟨rfl, rfl⟩; rw [HX.out])
    go_ret2
    refine orFault_of ?_ HF.out
    exact ⟨by simp, rfl⟩
  have s1 : (x == 92) = false := by simpa using t1
  by_cases t2 : x = 39
  · have HF : Hid (escI xs at_ = some (39, at_ + 2)) := by show _ = _; rw [HI.out]; unfold escF; simp [t2]
    subst t2
    clear HI t1 s1
    go_enter Tryd.func69, Tryd.ntmps69
    go_wp2_with (go_at_call 52; refine (byteAt_any S b n c xs (at_ + 1) _ HE.out.bytes HE.out.len (by have := HE.out.small; omega) (by omega) HE.out.src HE.out.row).mono ?_; rintro e w' ⟨rfl, rfl⟩; rw [HX.out])
    go_ret2
    refine orFault_of ?_ HF.out
    exact ⟨by simp, rfl⟩
  have s2 : (x == 39) = false := by simpa using t2
  by_cases t3 : x = 34
  · have HF : Hid (escI xs at_ = some (34, at_ + 2)) := by show _ = _; rw [HI.out]; unfold escF; simp [t3]
    subst t3
    clear HI t1 s1 t2 s2
    go_enter Tryd.func69, Tryd.ntmps69
    go_wp2_with (go_at_call 52; refine (byteAt_any S b n c xs (at_ + 1) _ HE.out.bytes HE.out.len (by have := HE.out.small; omega) (by omega) HE.out.src HE.out.row).mono ?_; rintro e w' ⟨rfl, rfl⟩; rw [HX.out])
    go_ret2
    refine orFault_of ?_ HF.out
    exact ⟨by simp, rfl⟩
  have s3 : (x == 34) = false := by simpa using t3
  by_cases t4 : x = 110
  · have HF : Hid (escI xs at_ = some (10, at_ + 2)) := by show _ = _; rw [HI.out]; unfold escF; simp [t4]
    subst t4
    clear HI t1 s1 t2 s2 t3 s3
    go_enter Tryd.func69, Tryd.ntmps69
    go_wp2_with (go_at_call 52; refine (byteAt_any S b n c xs (at_ + 1) _ HE.out.bytes HE.out.len (by have := HE.out.small; omega) (by omega) HE.out.src HE.out.row).mono ?_; rintro e w' ⟨rfl, rfl⟩; rw [HX.out])
    go_ret2
    refine orFault_of ?_ HF.out
    exact ⟨by simp, rfl⟩
  have s4 : (x == 110) = false := by simpa using t4
  by_cases t5 : x = 116
  · have HF : Hid (escI xs at_ = some (9, at_ + 2)) := by show _ = _; rw [HI.out]; unfold escF; simp [t5]
    subst t5
    clear HI t1 s1 t2 s2 t3 s3 t4 s4
    go_enter Tryd.func69, Tryd.ntmps69
    go_wp2_with (go_at_call 52; refine (byteAt_any S b n c xs (at_ + 1) _ HE.out.bytes HE.out.len (by have := HE.out.small; omega) (by omega) HE.out.src HE.out.row).mono ?_; rintro e w' ⟨rfl, rfl⟩; rw [HX.out])
    go_ret2
    refine orFault_of ?_ HF.out
    exact ⟨by simp, rfl⟩
  have s5 : (x == 116) = false := by simpa using t5
  by_cases t6 : x = 114
  · have HF : Hid (escI xs at_ = some (13, at_ + 2)) := by show _ = _; rw [HI.out]; unfold escF; simp [t6]
    subst t6
    clear HI t1 s1 t2 s2 t3 s3 t4 s4 t5 s5
    go_enter Tryd.func69, Tryd.ntmps69
    go_wp2_with (go_at_call 52; refine (byteAt_any S b n c xs (at_ + 1) _ HE.out.bytes HE.out.len (by have := HE.out.small; omega) (by omega) HE.out.src HE.out.row).mono ?_; rintro e w' ⟨rfl, rfl⟩; rw [HX.out])
    go_ret2
    refine orFault_of ?_ HF.out
    exact ⟨by simp, rfl⟩
  have s6 : (x == 114) = false := by simpa using t6
  by_cases t7 : x = 120
  · have HF : Hid (escI xs at_ = hexI xs (at_ + 2)) := by show _ = _; rw [HI.out]; unfold escF; simp [t7]
    subst t7
    clear HI t1 s1 t2 s2 t3 s3 t4 s4 t5 s5 t6 s6
    have HH := hexEscape_any S b n c pos xs (at_ + 2) w HE.out (by omega)
    cases hh : hexI xs (at_ + 2) with
    | none =>
      rw [hh] at HH
      have HG : Hid (escI xs at_ = none) := HF.out.trans hh
      clear hh HF
      go_enter Tryd.func69, Tryd.ntmps69
      go_wp2_with (first | (go_at_call 52; refine (byteAt_any S b n c xs (at_ + 1) _ HE.out.bytes HE.out.len (by have := HE.out.small; omega) (by omega) HE.out.src HE.out.row).mono ?_; rintro e w' ⟨rfl, rfl⟩; rw [HX.out]) | (go_at_call 79; refine HH.mono ?_; rintro e w1 ⟨rfl, hb1⟩))
      refine ⟨rfl, orFault_of ?_ HG.out⟩
      exact ⟨rfl, hb1⟩
    | some r =>
      obtain ⟨v, q⟩ := r
      rw [hh] at HH
      have HG : Hid (escI xs at_ = some (v, q)) := HF.out.trans hh
      clear hh HF
      go_enter Tryd.func69, Tryd.ntmps69
      go_wp2_with (first | (go_at_call 52; refine (byteAt_any S b n c xs (at_ + 1) _ HE.out.bytes HE.out.len (by have := HE.out.small; omega) (by omega) HE.out.src HE.out.row).mono ?_; rintro e w' ⟨rfl, rfl⟩; rw [HX.out]) | (go_at_call 79; refine HH.mono ?_; rintro e w1 ⟨rfl, rfl⟩))
      go_ret2
      refine orFault_of ?_ HG.out
      exact ⟨rfl, rfl⟩
  have s7 : (x == 120) = false := by simpa using t7
  have HF : Hid (escI xs at_ = none) := by show _ = _; rw [HI.out]; unfold escF; rw [if_neg t1, if_neg t2, if_neg t3, if_neg t4, if_neg t5, if_neg t6, if_neg t7]
  clear HI t1 t2 t3 t4 t5 t6 t7
  go_enter Tryd.func69, Tryd.ntmps69
  go_wp2_with (first | (go_at_call 52; refine (byteAt_any S b n c xs (at_ + 1) _ HE.out.bytes HE.out.len (by have := HE.out.small; omega) (by omega) HE.out.src HE.out.row).mono ?_; rintro e w' ⟨rfl, rfl⟩; rw [HX.out]) | (go_at_call 62; refine (fault_any S pos 2 _ HE.out.at1 HE.out.inH).mono ?_; rintro e w1 ⟨rfl, hb1⟩))
  refine ⟨rfl, orFault_of ?_ HF.out⟩
  exact ⟨rfl, hb1⟩

end Go.Proofs.YtfhelmhcmfpedaaDoor
