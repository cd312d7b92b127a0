/- Texts of Ops3, Or0, OpsV1, OpsV2. Own work of the verifier. -/
import Derived.Test.YtfgmenkoeflhaaaGreatDoorUqam
import Derived.Lib.BytesEntry
import Derived.Sort.Grow
namespace Go.Proofs.YtfgmenkoeflhaaaGreatDoor
set_option linter.unusedVariables false
section
open Go Go.RowKit
def orI (x y : Int) : Int := if x ≠ 0 then x else y
def resB (s : ByteArray) : Bool := s.toList == [91, 93] || s.toList == [123, 125] || s.toList == [124]
def preB (t : Int) : Bool := t == 3 || t == 4
def srt (t : Int) : Int := if preB t then 0 else 1
theorem l3special_any (p : Option Addr) (m cap : Nat) (xs : List Int) (w : World) (hm : m = xs.length) (h : BIn w p xs) : Calls Tryz.prog 80 #[.slice p m cap] w fun e w' => e = .returned (.bool (resB (strOfNums xs))) ∧ w' = w := by
 have cv := conv_str h m cap hm 9 Tryz.underlying9; clear h hm
 generalize strOfNums xs = s at cv ⊢
 cases h1 : (s.toList == [91, 93]) <;> cases h2 : (s.toList == [123, 125]) <;> cases h3 : (s.toList == [124])
 all_goals
  have HF : Hid (∀ b, b = resB s → Ending.returned (.bool b) = .returned (.bool (resB s))) := fun b h => ret_bool h
  have HR : Hid (resB s = (s.toList == [91, 93] || s.toList == [123, 125] || s.toList == [124])) := rfl; rw [h1, h2, h3] at HR
  go_enter Tryz.func80, Tryz.ntmps80
  go_wp2_with fail; go_ret; exact ⟨HF.out _ HR.out.symm, rfl⟩
theorem l3prefix_any (t : Int) (w : World) : Calls Tryz.prog 81 #[.int .i64 t] w fun e w' => e = .returned (.bool (preB t)) ∧ w' = w := by
 have HR : Hid (preB t = (t == 3 || t == 4)) := rfl
 cases h1 : (t == 3) <;> cases h2 : (t == 4)
 all_goals
  rw [h1, h2] at HR
  have HF : Hid (∀ b, b = preB t → Ending.returned (.bool b) = .returned (.bool (preB t))) := fun b h => ret_bool h
  go_enter Tryz.func81, Tryz.ntmps81
  go_wp2_with fail; go_ret; exact ⟨HF.out _ HR.out.symm, rfl⟩
end
section
open Go Go.RowKit Go.Sort
def opCmp (x y : Cel) : Int := orI (cmpS (strOfNums x.2.2) (strOfNums y.2.2)) (cmpI (srt x.2.1) (srt y.2.1))
end
end Go.Proofs.YtfgmenkoeflhaaaGreatDoor
