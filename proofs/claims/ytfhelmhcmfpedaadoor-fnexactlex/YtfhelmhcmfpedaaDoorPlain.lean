/- IsPlain of both sides. Own work of the verifier. -/
import Derived.Test.YtfhelmhcmfpedaaDoorBase2
import Derived.Test.YtfhelmhcmfpedaaDoorCopy
import Derived.Test.YtfhelmhcmfpedaaDoorStrs
import Derived.Lib.SlBytesConst
import Derived.Deep.Light
namespace Go.Proofs.YtfhelmhcmfpedaaDoor
open Go Go.RowKit
set_option linter.unusedVariables false

set_option maxRecDepth 100000 in
theorem specPlain_any (b cap : Nat) (xs : List Int) (w : World) (hb : Bytes xs) (hn : xs.length ≤ 1048576) (hcap : xs.length ≤ cap)
    (hc : ∀ i, i < xs.length → w.cell? ⟨b, i, none⟩ = some (.int .u8 (xs.getD i 0))) :
    Calls Tryd.prog 6 #[.slice (some ⟨b, 0, none⟩) xs.length cap] w fun e w' => e = .returned (.bool (plainB xs)) ∧ w' = w := by
  have hcv := run_convert_bytes_arg (P := Tryd.prog) w 22 5 Tryd.underlying22 Tryd.underlying5 b 0 xs.length cap xs rfl (fun i hi => by simpa using hc i hi) 9 Tryd.underlying9
  have HC : Hid (∀ i, i < xs.length → w.cell? ⟨b, i, none⟩ = some (.int .u8 (xs.getD i 0))) := hc
  have hss : (strOfNums xs).size = xs.length := strOfNums_size xs
  obtain ⟨s, es⟩ : ∃ s, s = strOfNums xs := ⟨_, rfl⟩
  rw [← es] at hcv hss
  have HS : Hid (s = strOfNums xs) := es
  clear es hc
  have HT : Hid (xs.length ≤ 1 → ¬ (s.extract 0 2).toList = [47, 42]) := fun h e => by
    have := congrArg List.length e
    rw [HS.out, str_cut, str_list] at this
    simp at this
    omega
  by_cases h0 : xs.length = 0
  · have e : plainB xs = false := by unfold plainB; rw [if_pos (.inl h0)]
    rw [e]
    obtain rfl : xs = [] := List.eq_nil_of_length_eq_zero h0
    clear h0
    simp only [List.length_nil] at hcv hss ⊢
    go_enter Tryd.func6, Tryd.ntmps6
    go_wp2
    go_ret
    exact ⟨rfl, rfl⟩
  by_cases h100 : 100 < xs.length
  · have e : plainB xs = false := by unfold plainB; rw [if_pos (.inr h100)]
    rw [e]
    go_enter Tryd.func6, Tryd.ntmps6
    go_wp2
    go_ret
    exact ⟨rfl, rfl⟩
  have hc0 := HC.out 0 (by omega)
  have hx0 := hb.at 0
  obtain ⟨x, ex⟩ : ∃ x, x = xs.getD 0 0 := ⟨_, rfl⟩
  rw [← ex] at hc0 hx0
  have HP : Hid (plainB xs = _) := plain_str hb HS.out ex
  clear ex
  go_enter Tryd.func6, Tryd.ntmps6
  go_wp2_with (first | (go_at_call 19; refine (small_any _ _ hx0.1 hx0.2).mono ?_; rintro e w' ⟨rfl, rfl⟩) | (go_at_call 20; refine (l1run_any b cap xs 0 _ _ hb (by omega) (Nat.zero_le _) HC.out).mono ?_; rintro e w' ⟨rfl, rfl⟩))
  all_goals go_ret
  all_goals refine ⟨ret_bool ?_, rfl⟩
  all_goals rw [HP.out, if_neg (by omega)]
  all_goals clear HC HP
  all_goals go_light
  all_goals simp_all [runLen_eq]
  all_goals (first | (exfalso; omega) | exact fun _ => HT.out (by omega))

end Go.Proofs.YtfhelmhcmfpedaaDoor
