/- l8dollar, l8construct of the model. Own work of the verifier. Made by wip/draft/nbs1.py. -/
import Derived.Test.YtgedoflkkkpdeaaGreatDoorIsG
import Derived.Test.YtgedoflkkkpdeaaGreatDoorDolP
namespace Go.Proofs.YtgedoflkkkpdeaaGreatDoor
open Go Go.RowKit
set_option linter.unusedVariables false

theorem l8dollar_any (p : Option Addr) (m cap : Nat) (xs : List Int) (w : World) (hm : m = xs.length) (hl : m ≤ 2000000) (hb : Byte xs) (hin : BIn w p xs) : Calls Tryz.prog 16 #[.slice p m cap] w fun e w' => e = .returned (.bool (dolL xs)) ∧ w' = w := by
  have HF : Hid (∀ b, b = dolL xs → Ending.returned (.bool b) = .returned (.bool (dolL xs))) := fun b h => ret_bool h
  cases xs with
  | nil =>
    have hm0 : m = 0 := by simpa using hm
    subst hm0
    have HZ : Hid (dolL [] = false) := rfl
    clear hin hm hb
    go_enter Tryz.func16, Tryz.ntmps16
    go_wp2_with fail
    go_ret
    exact ⟨HF.out _ HZ.out.symm, rfl⟩
  | cons x r =>
    obtain ⟨b, o, rfl, hcs⟩ := hin (by simp)
    have h0 := hcs 0 (by simp)
    simp only [List.getD_cons_zero, Nat.add_zero] at h0
    have hx := hb x (by simp)
    have hm1 : 1 ≤ m := by simp at hm; omega
    have h1 : decide ((0 : Int) < (m : Int)) = true := by simp; omega
    have h1' : (0 : Int) < (m : Int) := by omega
    have HZ : Hid (dolL (x :: r) = (x == 36)) := by show _ = _; simp [dolL]
    clear hin hm hb hcs
    cases h2 : (x == 36)
    all_goals
      rw [h2] at HZ
      go_enter Tryz.func16, Tryz.ntmps16
      go_wp2_with fail
      go_ret
      exact ⟨HF.out _ HZ.out.symm, rfl⟩

/-- Whether a first cell is that of a construct, as the model asks. -/
def con7 (s : ByteArray) (k n : Int) : Bool := isB s ⟨#[44]⟩ k n 2 || isB s ⟨#[59]⟩ k n 2 || isB s ⟨#[45, 62]⟩ k n 2 || isB s ⟨#[92, 43]⟩ k n 1 || isB s ⟨#[111, 110, 99, 101]⟩ k n 1 || isB s ⟨#[102, 111, 114, 97, 108, 108]⟩ k n 2 || isB s ⟨#[33]⟩ k n 0
set_option maxRecDepth 100000 in
set_option maxHeartbeats 400000 in
theorem l8construct_any (s : ByteArray) (k n : Int) (b o : Nat) (q : Option Addr) (m qc len cap : Nat) (w : World) (hlen : 0 < len)
    (d0 : w.cell? ⟨b, o, none⟩ = some (.int .i64 k)) (d1 : w.cell? ⟨b, o + 1, none⟩ = some (.int .i64 n)) (d2 : w.cell? ⟨b, o + 2, none⟩ = some (.slice q m qc))
    (hcv : (convert 22 9 (.slice q m qc)).run Tryz.prog w = .ok (.string s) w) :
    Calls Tryz.prog 13 #[.slice (some ⟨b, o, none⟩) len cap] w fun e w' => e = .returned (.bool (con7 s k n)) ∧ w' = w := by
  have HL := fun nm ar => l2isG_any s nm k n ar b o q m qc len cap w hlen d0 d1 d2 hcv
  have HF : Hid (∀ b, b = con7 s k n → Ending.returned (.bool b) = .returned (.bool (con7 s k n))) := fun b h => ret_bool h
  have HR : Hid (con7 s k n = (isB s ⟨#[44]⟩ k n 2 || isB s ⟨#[59]⟩ k n 2 || isB s ⟨#[45, 62]⟩ k n 2 || isB s ⟨#[92, 43]⟩ k n 1 || isB s ⟨#[111, 110, 99, 101]⟩ k n 1 || isB s ⟨#[102, 111, 114, 97, 108, 108]⟩ k n 2 || isB s ⟨#[33]⟩ k n 0)) := rfl
  have H0 := HL ⟨#[44]⟩ 2
  have H1 := HL ⟨#[59]⟩ 2
  have H2 := HL ⟨#[45, 62]⟩ 2
  have H3 := HL ⟨#[92, 43]⟩ 1
  have H4 := HL ⟨#[111, 110, 99, 101]⟩ 1
  have H5 := HL ⟨#[102, 111, 114, 97, 108, 108]⟩ 2
  have H6 := HL ⟨#[33]⟩ 0
  clear HL d0 d1 d2 hcv hlen
  cases h0 : isB s ⟨#[44]⟩ k n 2
  rotate_left
  · rw [h0] at HR
    rw [h0] at H0
    go_enter Tryz.func13, Tryz.ntmps13
    go_wp2_with fail
    refine H0.mono ?_
    rintro e w0 ⟨rfl, rfl⟩
    go_wp2_with fail
    go_ret
    exact ⟨HF.out _ (by rw [HR.out]; rfl), rfl⟩
  cases h1 : isB s ⟨#[59]⟩ k n 2
  rotate_left
  · rw [h0, h1] at HR
    rw [h0] at H0
    rw [h1] at H1
    go_enter Tryz.func13, Tryz.ntmps13
    go_wp2_with fail
    refine H0.mono ?_
    rintro e w0 ⟨rfl, rfl⟩
    go_wp2_with fail
    refine H1.mono ?_
    rintro e w1 ⟨rfl, rfl⟩
    go_wp2_with fail
    go_ret
    exact ⟨HF.out _ (by rw [HR.out]; rfl), rfl⟩
  cases h2 : isB s ⟨#[45, 62]⟩ k n 2
  rotate_left
  · rw [h0, h1, h2] at HR
    rw [h0] at H0
    rw [h1] at H1
    rw [h2] at H2
    go_enter Tryz.func13, Tryz.ntmps13
    go_wp2_with fail
    refine H0.mono ?_
    rintro e w0 ⟨rfl, rfl⟩
    go_wp2_with fail
    refine H1.mono ?_
    rintro e w1 ⟨rfl, rfl⟩
    go_wp2_with fail
    refine H2.mono ?_
    rintro e w2 ⟨rfl, rfl⟩
    go_wp2_with fail
    go_ret
    exact ⟨HF.out _ (by rw [HR.out]; rfl), rfl⟩
  cases h3 : isB s ⟨#[92, 43]⟩ k n 1
  rotate_left
  · rw [h0, h1, h2, h3] at HR
    rw [h0] at H0
    rw [h1] at H1
    rw [h2] at H2
    rw [h3] at H3
    go_enter Tryz.func13, Tryz.ntmps13
    go_wp2_with fail
    refine H0.mono ?_
    rintro e w0 ⟨rfl, rfl⟩
    go_wp2_with fail
    refine H1.mono ?_
    rintro e w1 ⟨rfl, rfl⟩
    go_wp2_with fail
    refine H2.mono ?_
    rintro e w2 ⟨rfl, rfl⟩
    go_wp2_with fail
    refine H3.mono ?_
    rintro e w3 ⟨rfl, rfl⟩
    go_wp2_with fail
    go_ret
    exact ⟨HF.out _ (by rw [HR.out]; rfl), rfl⟩
  cases h4 : isB s ⟨#[111, 110, 99, 101]⟩ k n 1
  rotate_left
  · rw [h0, h1, h2, h3, h4] at HR
    rw [h0] at H0
    rw [h1] at H1
    rw [h2] at H2
    rw [h3] at H3
    rw [h4] at H4
    go_enter Tryz.func13, Tryz.ntmps13
    go_wp2_with fail
    refine H0.mono ?_
    rintro e w0 ⟨rfl, rfl⟩
    go_wp2_with fail
    refine H1.mono ?_
    rintro e w1 ⟨rfl, rfl⟩
    go_wp2_with fail
    refine H2.mono ?_
    rintro e w2 ⟨rfl, rfl⟩
    go_wp2_with fail
    refine H3.mono ?_
    rintro e w3 ⟨rfl, rfl⟩
    go_wp2_with fail
    refine H4.mono ?_
    rintro e w4 ⟨rfl, rfl⟩
    go_wp2_with fail
    go_ret
    exact ⟨HF.out _ (by rw [HR.out]; rfl), rfl⟩
  cases h5 : isB s ⟨#[102, 111, 114, 97, 108, 108]⟩ k n 2
  rotate_left
  · rw [h0, h1, h2, h3, h4, h5] at HR
    rw [h0] at H0
    rw [h1] at H1
    rw [h2] at H2
    rw [h3] at H3
    rw [h4] at H4
    rw [h5] at H5
    go_enter Tryz.func13, Tryz.ntmps13
    go_wp2_with fail
    refine H0.mono ?_
    rintro e w0 ⟨rfl, rfl⟩
    go_wp2_with fail
    refine H1.mono ?_
    rintro e w1 ⟨rfl, rfl⟩
    go_wp2_with fail
    refine H2.mono ?_
    rintro e w2 ⟨rfl, rfl⟩
    go_wp2_with fail
    refine H3.mono ?_
    rintro e w3 ⟨rfl, rfl⟩
    go_wp2_with fail
    refine H4.mono ?_
    rintro e w4 ⟨rfl, rfl⟩
    go_wp2_with fail
    refine H5.mono ?_
    rintro e w5 ⟨rfl, rfl⟩
    go_wp2_with fail
    go_ret
    exact ⟨HF.out _ (by rw [HR.out]; rfl), rfl⟩
  cases h6 : isB s ⟨#[33]⟩ k n 0
  rotate_left
  · rw [h0, h1, h2, h3, h4, h5, h6] at HR
    rw [h0] at H0
    rw [h1] at H1
    rw [h2] at H2
    rw [h3] at H3
    rw [h4] at H4
    rw [h5] at H5
    rw [h6] at H6
    go_enter Tryz.func13, Tryz.ntmps13
    go_wp2_with fail
    refine H0.mono ?_
    rintro e w0 ⟨rfl, rfl⟩
    go_wp2_with fail
    refine H1.mono ?_
    rintro e w1 ⟨rfl, rfl⟩
    go_wp2_with fail
    refine H2.mono ?_
    rintro e w2 ⟨rfl, rfl⟩
    go_wp2_with fail
    refine H3.mono ?_
    rintro e w3 ⟨rfl, rfl⟩
    go_wp2_with fail
    refine H4.mono ?_
    rintro e w4 ⟨rfl, rfl⟩
    go_wp2_with fail
    refine H5.mono ?_
    rintro e w5 ⟨rfl, rfl⟩
    go_wp2_with fail
    refine H6.mono ?_
    rintro e w6 ⟨rfl, rfl⟩
    go_wp2_with fail
    go_ret
    exact ⟨HF.out _ (by rw [HR.out]; rfl), rfl⟩
  rw [h0, h1, h2, h3, h4, h5, h6] at HR
  rw [h0] at H0
  rw [h1] at H1
  rw [h2] at H2
  rw [h3] at H3
  rw [h4] at H4
  rw [h5] at H5
  rw [h6] at H6
  go_enter Tryz.func13, Tryz.ntmps13
  go_wp2_with fail
  refine H0.mono ?_
  rintro e w0 ⟨rfl, rfl⟩
  go_wp2_with fail
  refine H1.mono ?_
  rintro e w1 ⟨rfl, rfl⟩
  go_wp2_with fail
  refine H2.mono ?_
  rintro e w2 ⟨rfl, rfl⟩
  go_wp2_with fail
  refine H3.mono ?_
  rintro e w3 ⟨rfl, rfl⟩
  go_wp2_with fail
  refine H4.mono ?_
  rintro e w4 ⟨rfl, rfl⟩
  go_wp2_with fail
  refine H5.mono ?_
  rintro e w5 ⟨rfl, rfl⟩
  go_wp2_with fail
  refine H6.mono ?_
  rintro e w6 ⟨rfl, rfl⟩
  go_wp2_with fail
  go_ret
  exact ⟨HF.out _ (by rw [HR.out]; rfl), rfl⟩
end Go.Proofs.YtgedoflkkkpdeaaGreatDoor
