/- l2is at any name. Own work of the verifier. -/
import Derived.Test.YtgedoflkkkpdeaaGreatDoorStr0
namespace Go.Proofs.YtgedoflkkkpdeaaGreatDoor
open Go Go.RowKit
set_option linter.unusedVariables false

/-- Whether a cell of this text, kind and number has this name and arity. -/
def isB (s nm : ByteArray) (k n ar : Int) : Bool := (s.toList == nm.toList) && (if ar == 0 then k == 2 else (k == 3 && n == ar))
set_option maxRecDepth 100000 in
theorem l2isG_any (s nm : ByteArray) (k n ar : Int) (b o : Nat) (q : Option Addr) (m qc len cap : Nat) (w : World) (hlen : 0 < len)
    (d0 : w.cell? ⟨b, o, none⟩ = some (.int .i64 k)) (d1 : w.cell? ⟨b, o + 1, none⟩ = some (.int .i64 n)) (d2 : w.cell? ⟨b, o + 2, none⟩ = some (.slice q m qc))
    (hcv : (convert 22 9 (.slice q m qc)).run Tryz.prog w = .ok (.string s) w) :
    Calls Tryz.prog 62 #[.slice (some ⟨b, o, none⟩) len cap, .string nm, .int .i64 ar] w fun e w' => e = .returned (.bool (isB s nm k n ar)) ∧ w' = w := by
  have hlt : (0 : Int) < len := by omega
  have HF : Hid (∀ b, b = isB s nm k n ar → Ending.returned (.bool b) = .returned (.bool (isB s nm k n ar))) := fun b h => ret_bool h
  have HR : Hid (isB s nm k n ar = ((s.toList == nm.toList) && (if ar == 0 then k == 2 else (k == 3 && n == ar)))) := rfl
  clear hlen
  cases h1 : (s.toList == nm.toList)
  · rw [h1] at HR
    go_enter Tryz.func62, Tryz.ntmps62
    go_wp2_with fail
    go_ret
    exact ⟨HF.out _ (by rw [HR.out]; rfl), rfl⟩
  · rw [h1] at HR
    cases h2 : (ar == 0)
    · rw [h2] at HR
      have h2' : ¬ ar = 0 := by simpa using h2
      cases h3 : (k == 3)
      · rw [h3] at HR
        go_enter Tryz.func62, Tryz.ntmps62
        go_wp2_with fail
        go_ret
        exact ⟨HF.out _ (by rw [HR.out]; rfl), rfl⟩
      · rw [h3] at HR
        cases h4 : (n == ar)
        · rw [h4] at HR
          have h4' : ¬ n = ar := by simpa using h4
          go_enter Tryz.func62, Tryz.ntmps62
          go_wp2_with fail
          go_ret
          exact ⟨HF.out _ (by rw [HR.out]; rfl), rfl⟩
        · rw [h4] at HR
          go_enter Tryz.func62, Tryz.ntmps62
          go_wp2_with fail
          go_ret
          exact ⟨HF.out _ (by rw [HR.out]; rfl), rfl⟩
    · rw [h2] at HR
      cases h3 : (k == 2)
      · rw [h3] at HR
        go_enter Tryz.func62, Tryz.ntmps62
        go_wp2_with fail
        go_ret
        exact ⟨HF.out _ (by rw [HR.out]; rfl), rfl⟩
      · rw [h3] at HR
        go_enter Tryz.func62, Tryz.ntmps62
        go_wp2_with fail
        go_ret
        exact ⟨HF.out _ (by rw [HR.out]; rfl), rfl⟩

end Go.Proofs.YtgedoflkkkpdeaaGreatDoor
