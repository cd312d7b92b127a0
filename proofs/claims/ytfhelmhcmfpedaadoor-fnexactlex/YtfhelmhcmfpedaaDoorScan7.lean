/- The scanner: characters and numbers. Own work of the verifier. -/
import Derived.Test.YtfhelmhcmfpedaaDoorScan6
namespace Go.Proofs.YtfhelmhcmfpedaaDoor
open Go Go.RowKit
set_option linter.unusedVariables false
set_option linter.unusedSimpArgs false

def chrF (x y : Int) (xs : List Int) (at_ : Nat) : Option (Int × Nat) :=
  if x = 39 ∧ y = 39 then some (39, at_ + 2) else if x = 92 then escI xs at_ else if x = 39 ∨ ¬ (32 ≤ x ∧ x ≠ 127) then none else some (x, at_ + 1)
def chrI (xs : List Int) (at_ : Nat) : Option (Int × Nat) := chrF (byteI xs at_) (byteI xs (at_ + 1)) xs at_

set_option maxRecDepth 100000 in
theorem character_any (S b n c pos : Nat) (xs : List Int) (at_ : Nat) (w : World) (E : Env w S b n c pos xs) (ha : at_ ≤ 10004) :
    Calls Tryd.prog 76 #[.pointer (some ⟨S, 0, none⟩), .int .i64 at_] w fun e w' => OrFault w pos (chrI xs at_) e w' := by
  have HE : Hid (Env w S b n c pos xs) := E
  have hr := byteI_rng E.bytes at_
  have hr2 := byteI_rng E.bytes (at_ + 1)
  obtain ⟨x, ex⟩ : ∃ x, x = byteI xs at_ := ⟨_, rfl⟩
  obtain ⟨y, ey⟩ : ∃ y, y = byteI xs (at_ + 1) := ⟨_, rfl⟩
  have HI : Hid (chrI xs at_ = chrF x y xs at_) := by show _ = _; rw [ex, ey]; rfl
  rw [← ex] at hr
  rw [← ey] at hr2
  have HX : Hid (byteI xs at_ = x) := ex.symm
  have HY : Hid (byteI xs (at_ + 1) = y) := ey.symm
  clear E ex ey
  have tok0 : True := trivial
  have tok1 : True := trivial
  by_cases t1 : x = 39
  · by_cases t2 : y = 39
    · have HF : Hid (chrI xs at_ = some (39, at_ + 2)) := by show _ = _; rw [HI.out]; unfold chrF; rw [if_pos ⟨t1, t2⟩]
      subst t1; subst t2
      clear HI
      go_enter Tryd.func76, Tryd.ntmps76
      go_wp2_with (first | (go_at_call 52; have _t := tok0; refine (byteAt_any S b n c xs at_ _ HE.out.bytes HE.out.len (by have := HE.out.small; omega) (by omega) HE.out.src HE.out.row).mono ?_; rintro e w' ⟨rfl, rfl⟩; rw [HX.out]; clear tok0) | (go_at_call 52; have _t := tok1; refine (byteAt_any S b n c xs (at_ + 1) _ HE.out.bytes HE.out.len (by have := HE.out.small; omega) (by omega) HE.out.src HE.out.row).mono ?_; rintro e w' ⟨rfl, rfl⟩; rw [HY.out]; clear tok1))
      go_ret2
      refine orFault_of ?_ HF.out
      exact ⟨by simp, rfl⟩
    · have HF : Hid (chrI xs at_ = none) := by show _ = _; rw [HI.out]; unfold chrF; rw [if_neg (by omega), if_neg (by omega), if_pos (.inl t1)]
      have s2 : (y == 39) = false := by simpa using t2
      subst t1
      clear HI t2
      go_enter Tryd.func76, Tryd.ntmps76
      go_wp2_with (first | (go_at_call 52; have _t := tok0; refine (byteAt_any S b n c xs at_ _ HE.out.bytes HE.out.len (by have := HE.out.small; omega) (by omega) HE.out.src HE.out.row).mono ?_; rintro e w' ⟨rfl, rfl⟩; rw [HX.out]; clear tok0) | (go_at_call 52; have _t := tok1; refine (byteAt_any S b n c xs (at_ + 1) _ HE.out.bytes HE.out.len (by have := HE.out.small; omega) (by omega) HE.out.src HE.out.row).mono ?_; rintro e w' ⟨rfl, rfl⟩; rw [HY.out]; clear tok1) | (go_at_call 62; refine (fault_any S pos 2 _ HE.out.at1 HE.out.inH).mono ?_; rintro e w1 ⟨rfl, hb1⟩))
      refine ⟨rfl, orFault_of ?_ HF.out⟩
      exact ⟨rfl, hb1⟩
  have s1 : (x == 39) = false := by simpa using t1
  by_cases t3 : x = 92
  · have HF : Hid (chrI xs at_ = escI xs at_) := by show _ = _; rw [HI.out]; unfold chrF; rw [if_neg (by omega), if_pos t3]
    have HH := escape_any S b n c pos xs at_ w HE.out (by omega)
    subst t3
    clear HI t1 s1
    cases hh : escI xs at_ with
    | none =>
      rw [hh] at HH
      have HG : Hid (chrI xs at_ = none) := HF.out.trans hh
      clear hh HF
      go_enter Tryd.func76, Tryd.ntmps76
      go_wp2_with (first | (go_at_call 52; have _t := tok0; refine (byteAt_any S b n c xs at_ _ HE.out.bytes HE.out.len (by have := HE.out.small; omega) (by omega) HE.out.src HE.out.row).mono ?_; rintro e w' ⟨rfl, rfl⟩; rw [HX.out]; clear tok0) | (go_at_call 69; refine HH.mono ?_; rintro e w1 ⟨rfl, hb1⟩))
      refine ⟨rfl, orFault_of ?_ HG.out⟩
      exact ⟨rfl, hb1⟩
    | some r =>
      obtain ⟨v, q⟩ := r
      rw [hh] at HH
      have HG : Hid (chrI xs at_ = some (v, q)) := HF.out.trans hh
      clear hh HF
      go_enter Tryd.func76, Tryd.ntmps76
      go_wp2_with (first | (go_at_call 52; have _t := tok0; refine (byteAt_any S b n c xs at_ _ HE.out.bytes HE.out.len (by have := HE.out.small; omega) (by omega) HE.out.src HE.out.row).mono ?_; rintro e w' ⟨rfl, rfl⟩; rw [HX.out]; clear tok0) | (go_at_call 69; refine HH.mono ?_; rintro e w1 ⟨rfl, rfl⟩))
      go_ret2
      refine orFault_of ?_ HG.out
      exact ⟨rfl, rfl⟩
  have s3 : (x == 92) = false := by simpa using t3
  by_cases t4 : 32 ≤ x ∧ x ≠ 127
  · have HF : Hid (chrI xs at_ = some (x, at_ + 1)) := by show _ = _; rw [HI.out]; unfold chrF; rw [if_neg (by omega), if_neg (by omega), if_neg (by omega)]
    have TS : Hid (decide (32 ≤ x ∧ x ≠ 127) = true) := by show _ = _; rw [decide_eq_true_iff]; exact t4
    clear HI t1 t3 t4
    go_enter Tryd.func76, Tryd.ntmps76
    go_wp2_with (first | (go_at_call 52; have _t := tok0; refine (byteAt_any S b n c xs at_ _ HE.out.bytes HE.out.len (by have := HE.out.small; omega) (by omega) HE.out.src HE.out.row).mono ?_; rintro e w' ⟨rfl, rfl⟩; rw [HX.out]; clear tok0) | (go_at_call 70; go_must (refine (standsFor_any x _ hr.1 hr.2).mono ?_; rintro e w' ⟨rfl, rfl⟩; rw [TS.out])))
    go_ret2
    refine orFault_of ?_ HF.out
    exact ⟨by simp, rfl⟩
  · have HF : Hid (chrI xs at_ = none) := by show _ = _; rw [HI.out]; unfold chrF; rw [if_neg (by omega), if_neg (by omega), if_pos (.inr t4)]
    have TS : Hid (decide (32 ≤ x ∧ x ≠ 127) = false) := by show _ = _; rw [decide_eq_false_iff_not]; exact t4
    clear HI t1 t3 t4
    go_enter Tryd.func76, Tryd.ntmps76
    go_wp2_with (first | (go_at_call 52; have _t := tok0; refine (byteAt_any S b n c xs at_ _ HE.out.bytes HE.out.len (by have := HE.out.small; omega) (by omega) HE.out.src HE.out.row).mono ?_; rintro e w' ⟨rfl, rfl⟩; rw [HX.out]; clear tok0) | (go_at_call 70; go_must (refine (standsFor_any x _ hr.1 hr.2).mono ?_; rintro e w' ⟨rfl, rfl⟩; rw [TS.out])) | (go_at_call 62; refine (fault_any S pos 2 _ HE.out.at1 HE.out.inH).mono ?_; rintro e w1 ⟨rfl, hb1⟩))
    refine ⟨rfl, orFault_of ?_ HF.out⟩
    exact ⟨rfl, hb1⟩

def numF (x0 mk z : Int) (xs : List Int) (pos : Nat) : Option (Int × Nat) :=
  if x0 ≠ 48 then some (digsB xs 10 xs.length pos 0) else if mk = 39 then chrI xs (pos + 2) else if digI z < baseI mk then some (digsB xs (baseI mk) xs.length (pos + 2) 0) else some (digsB xs 10 xs.length pos 0)
def numI (xs : List Int) (pos : Nat) : Option (Int × Nat) := numF (byteI xs pos) (byteI xs (pos + 1)) (byteI xs (pos + 2)) xs pos
theorem baseI_rng (m : Int) : 0 ≤ baseI m ∧ baseI m ≤ 16 := by
  unfold baseI
  repeat' split
  all_goals omega

set_option maxRecDepth 100000 in
theorem numeral_any (S b n c pos : Nat) (xs : List Int) (w : World) (E : Env w S b n c pos xs) (hp : pos ≤ 10000) :
    Calls Tryd.prog 68 #[.pointer (some ⟨S, 0, none⟩)] w fun e w' => OrFault w pos (numI xs pos) e w' := by
  have HE : Hid (Env w S b n c pos xs) := E
  have h1 := E.at1
  have hr0 := byteI_rng E.bytes pos
  have hr1 := byteI_rng E.bytes (pos + 1)
  have hr2 := byteI_rng E.bytes (pos + 2)
  obtain ⟨x, ex⟩ : ∃ x, x = byteI xs pos := ⟨_, rfl⟩
  obtain ⟨y, ey⟩ : ∃ y, y = byteI xs (pos + 1) := ⟨_, rfl⟩
  obtain ⟨z, ez⟩ : ∃ z, z = byteI xs (pos + 2) := ⟨_, rfl⟩
  have HI : Hid (numI xs pos = numF x y z xs pos) := by show _ = _; rw [ex, ey, ez]; rfl
  rw [← ex] at hr0
  rw [← ey] at hr1
  rw [← ez] at hr2
  have HX : Hid (byteI xs pos = x) := ex.symm
  have HY : Hid (byteI xs (pos + 1) = y) := ey.symm
  have HZ : Hid (byteI xs (pos + 2) = z) := ez.symm
  obtain ⟨v, q, er⟩ : ∃ v q, digsB xs 10 xs.length pos 0 = (v, q) := ⟨_, _, rfl⟩
  have HR : Hid (digsB xs 10 xs.length pos 0 = (v, q)) := er
  clear E ex ey ez er
  have tok0 : True := trivial
  have tok1 : True := trivial
  have tok2 : True := trivial
  by_cases t0 : x = 48
  · by_cases t1 : y = 39
    · have HF : Hid (numI xs pos = chrI xs (pos + 2)) := by show _ = _; rw [HI.out]; unfold numF; rw [if_neg (by omega), if_pos t1]
      have HH := character_any S b n c pos xs (pos + 2) w HE.out (by omega)
      have s0 : (x != 48) = false := by simp [t0]
      subst t0; subst t1
      clear HI
      cases hh : chrI xs (pos + 2) with
      | none =>
        rw [hh] at HH
        have HG : Hid (numI xs pos = none) := HF.out.trans hh
        clear hh HF
        go_enter Tryd.func68, Tryd.ntmps68
        go_wp2_with (first | (go_at_call 52; have _t := tok0; refine (byteAt_any S b n c xs pos _ HE.out.bytes HE.out.len (by have := HE.out.small; omega) (by omega) HE.out.src HE.out.row).mono ?_; rintro e w' ⟨rfl, rfl⟩; rw [HX.out]; clear tok0) | (go_at_call 52; have _t := tok1; refine (byteAt_any S b n c xs (pos + 1) _ HE.out.bytes HE.out.len (by have := HE.out.small; omega) (by omega) HE.out.src HE.out.row).mono ?_; rintro e w' ⟨rfl, rfl⟩; rw [HY.out]; clear tok1) | (go_at_call 76; refine HH.mono ?_; rintro e w1 ⟨rfl, hb1⟩))
        refine ⟨rfl, orFault_of ?_ HG.out⟩
        exact ⟨rfl, hb1⟩
      | some r =>
        obtain ⟨v', q'⟩ := r
        rw [hh] at HH
        have HG : Hid (numI xs pos = some (v', q')) := HF.out.trans hh
        clear hh HF
        go_enter Tryd.func68, Tryd.ntmps68
        go_wp2_with (first | (go_at_call 52; have _t := tok0; refine (byteAt_any S b n c xs pos _ HE.out.bytes HE.out.len (by have := HE.out.small; omega) (by omega) HE.out.src HE.out.row).mono ?_; rintro e w' ⟨rfl, rfl⟩; rw [HX.out]; clear tok0) | (go_at_call 52; have _t := tok1; refine (byteAt_any S b n c xs (pos + 1) _ HE.out.bytes HE.out.len (by have := HE.out.small; omega) (by omega) HE.out.src HE.out.row).mono ?_; rintro e w' ⟨rfl, rfl⟩; rw [HY.out]; clear tok1) | (go_at_call 76; refine HH.mono ?_; rintro e w1 ⟨rfl, rfl⟩))
        go_ret2
        refine orFault_of ?_ HG.out
        exact ⟨rfl, rfl⟩
    have s1 : (y == 39) = false := by simpa using t1
    have hbr := baseI_rng y
    obtain ⟨bs, eb⟩ : ∃ bs, bs = baseI y := ⟨_, rfl⟩
    obtain ⟨d, ed⟩ : ∃ d, d = digI z := ⟨_, rfl⟩
    have hd := digI_rng z
    rw [← eb] at hbr
    rw [← ed] at hd
    have HB : Hid (baseI y = bs) := eb.symm
    have HD : Hid (digI z = d) := ed.symm
    by_cases t2 : d < bs
    · obtain ⟨v2, q2, er2⟩ : ∃ v q, digsB xs bs xs.length (pos + 2) 0 = (v, q) := ⟨_, _, rfl⟩
      have HR2 : Hid (digsB xs bs xs.length (pos + 2) 0 = (v2, q2)) := er2
      have HF : Hid (numI xs pos = some (v2, q2)) := by show _ = _; rw [HI.out]; unfold numF; rw [if_neg (by omega), if_neg t1, ← eb, ← ed, if_pos t2, er2]
      subst t0
      clear HI t1 eb ed er2
      go_enter Tryd.func68, Tryd.ntmps68
      go_wp2_with (first | (go_at_call 52; have _t := tok0; refine (byteAt_any S b n c xs pos _ HE.out.bytes HE.out.len (by have := HE.out.small; omega) (by omega) HE.out.src HE.out.row).mono ?_; rintro e w' ⟨rfl, rfl⟩; rw [HX.out]; clear tok0) | (go_at_call 52; have _t := tok1; refine (byteAt_any S b n c xs (pos + 1) _ HE.out.bytes HE.out.len (by have := HE.out.small; omega) (by omega) HE.out.src HE.out.row).mono ?_; rintro e w' ⟨rfl, rfl⟩; rw [HY.out]; clear tok1) | (go_at_call 52; have _t := tok2; refine (byteAt_any S b n c xs (pos + 2) _ HE.out.bytes HE.out.len (by have := HE.out.small; omega) (by omega) HE.out.src HE.out.row).mono ?_; rintro e w' ⟨rfl, rfl⟩; rw [HZ.out]; clear tok2) | (go_at_call 77; refine (baseOf_any _ _ hr1.1 hr1.2).mono ?_; rintro e w' ⟨rfl, rfl⟩; rw [HB.out]) | (go_at_call 78; refine (digitValue_any _ _ hr2.1 hr2.2).mono ?_; rintro e w' ⟨rfl, rfl⟩; rw [HD.out]) | (go_at_call 75; refine (digits_any S b n c xs (pos + 2) bs _ HE.out.bytes HE.out.len (by have := HE.out.small; omega) (by omega) hbr.1 hbr.2 HE.out.src HE.out.row).mono ?_; rintro e w' ⟨rfl, rfl⟩; rw [HR2.out]))
      go_ret2
      refine orFault_of ?_ HF.out
      exact ⟨rfl, rfl⟩
    · have HF : Hid (numI xs pos = some (v, q)) := by show _ = _; rw [HI.out]; unfold numF; rw [if_neg (by omega), if_neg t1, ← eb, ← ed, if_neg t2, HR.out]
      subst t0
      clear HI t1 eb ed
      go_enter Tryd.func68, Tryd.ntmps68
      go_wp2_with (first | (go_at_call 52; have _t := tok0; refine (byteAt_any S b n c xs pos _ HE.out.bytes HE.out.len (by have := HE.out.small; omega) (by omega) HE.out.src HE.out.row).mono ?_; rintro e w' ⟨rfl, rfl⟩; rw [HX.out]; clear tok0) | (go_at_call 52; have _t := tok1; refine (byteAt_any S b n c xs (pos + 1) _ HE.out.bytes HE.out.len (by have := HE.out.small; omega) (by omega) HE.out.src HE.out.row).mono ?_; rintro e w' ⟨rfl, rfl⟩; rw [HY.out]; clear tok1) | (go_at_call 52; have _t := tok2; refine (byteAt_any S b n c xs (pos + 2) _ HE.out.bytes HE.out.len (by have := HE.out.small; omega) (by omega) HE.out.src HE.out.row).mono ?_; rintro e w' ⟨rfl, rfl⟩; rw [HZ.out]; clear tok2) | (go_at_call 77; refine (baseOf_any _ _ hr1.1 hr1.2).mono ?_; rintro e w' ⟨rfl, rfl⟩; rw [HB.out]) | (go_at_call 78; refine (digitValue_any _ _ hr2.1 hr2.2).mono ?_; rintro e w' ⟨rfl, rfl⟩; rw [HD.out]) | (go_at_call 75; refine (digits_any S b n c xs pos 10 _ HE.out.bytes HE.out.len (by have := HE.out.small; omega) (by omega) (by decide) (by decide) HE.out.src HE.out.row).mono ?_; rintro e w' ⟨rfl, rfl⟩; rw [HR.out]))
      go_ret2
      refine orFault_of ?_ HF.out
      exact ⟨rfl, rfl⟩
  · have HF : Hid (numI xs pos = some (v, q)) := by show _ = _; rw [HI.out]; unfold numF; rw [if_pos t0, HR.out]
    have s0 : (x != 48) = true := by simp [t0]
    clear HI t0
    go_enter Tryd.func68, Tryd.ntmps68
    go_wp2_with (first | (go_at_call 52; have _t := tok0; refine (byteAt_any S b n c xs pos _ HE.out.bytes HE.out.len (by have := HE.out.small; omega) (by omega) HE.out.src HE.out.row).mono ?_; rintro e w' ⟨rfl, rfl⟩; rw [HX.out]; clear tok0) | (go_at_call 75; refine (digits_any S b n c xs pos 10 _ HE.out.bytes HE.out.len (by have := HE.out.small; omega) (by omega) (by decide) (by decide) HE.out.src HE.out.row).mono ?_; rintro e w' ⟨rfl, rfl⟩; rw [HR.out]))
    go_ret2
    refine orFault_of ?_ HF.out
    exact ⟨rfl, rfl⟩

end Go.Proofs.YtfhelmhcmfpedaaDoor
