/- cellsOf. Own work of the verifier. -/
import Derived.Test.YtpcmfdbcjegbcaaGreatDoorTree5
namespace Go.Proofs.YtpcmfdbcjegbcaaGreatDoor
open Go Go.RowKit Go.Maps
set_option linter.unusedVariables false

set_option maxRecDepth 100000 in
theorem cellsOf_any (c : Cel) (k : Fo) (v : Value) (Bt : Nat) (w : World) (hok : (Fo.node c k .nil).ok) (hfo : FoIn w Bt (.node c k .nil) [v]) (hl : k.cells.length ≤ 10000) :
    Calls Tryz.prog 20 #[v] w fun e w' => ∃ p n cp, e = .returned (.slice p n cp) ∧ OwnC w' w.heap.size p n cp (c :: k.cells) ∧ Below w.heap.size w w' := by
  have nil := OwnC.nil w w.heap.size
  have fin : ∀ {e : Ending} {w' : World}, AppOut w w.heap.size [] (c :: k.cells) e w' → ∃ p n cp, e = .returned (.slice p n cp) ∧ OwnC w' w.heap.size p n cp (c :: k.cells) ∧ Below w.heap.size w w' := fun ⟨p, n, cp, h1, h2, h3⟩ => ⟨p, n, cp, h1, by simpa using h2, h3⟩
  have FIN : Hid _ := @fin
  clear fin
  obtain ⟨v', vr, e, hnode, _⟩ := hfo
  obtain ⟨rfl, rfl⟩ := List.cons.inj e
  have hcl := hok.1
  have hby := hok.2.1
  rcases hnode with ⟨h0, rfl⟩ | ⟨h0, rfl⟩ | ⟨h0, rfl⟩ | ⟨h0, b, g, vs, rfl, hcomp⟩
  · have hk : k = .nil := hok.2.2.2.1 (by rw [h0]; decide)
    obtain ⟨c0, c1, c2⟩ := c
    simp only at h0 hcl
    subst h0 hk
    have e2 : c2 = [] := by simp [cellB] at hcl; exact hcl.2.2
    subst e2
    have HS := appVar_any c1 none 0 0 [] w.heap.size w (Nat.le_refl _) (by decide) nil
    clear hok hcl hby e nil
    go_enter Tryz.func20, Tryz.ntmps20
    go_wp2_with fail
    refine HS.mono ?_
    rintro e w1 ⟨p3, n3, c3, rfl, h1, h2⟩
    have HF := FIN.out ⟨p3, n3, c3, rfl, h1, h2⟩
    have HFF : Hid _ := HF
    clear HF h1 h2
    go_wp2_with fail
    go_ret
    exact HFF.out
  · have hk : k = .nil := hok.2.2.2.1 (by rw [h0]; decide)
    obtain ⟨c0, c1, c2⟩ := c
    simp only at h0 hcl
    subst h0 hk
    have e2 : c2 = [] := by simp [cellB] at hcl; exact hcl.2.2
    subst e2
    have HS := appNum_any c1 none 0 0 [] w.heap.size w (Nat.le_refl _) (by decide) nil
    clear hok hcl hby e nil
    go_enter Tryz.func20, Tryz.ntmps20
    go_wp2_with fail
    refine HS.mono ?_
    rintro e w1 ⟨p3, n3, c3, rfl, h1, h2⟩
    have HF := FIN.out ⟨p3, n3, c3, rfl, h1, h2⟩
    have HFF : Hid _ := HF
    clear HF h1 h2
    go_wp2_with fail
    go_ret
    exact HFF.out
  · have hk : k = .nil := hok.2.2.2.1 (by rw [h0]; decide)
    obtain ⟨c0, c1, c2⟩ := c
    simp only at h0 hcl hby
    subst h0 hk
    have e2 : c1 = 0 := by simp [cellB] at hcl; exact hcl.2
    subst e2
    have HS := appAtom_any c2 hby none 0 0 [] w.heap.size w (Nat.le_refl _) (by decide) nil
    obtain ⟨str, es⟩ : ∃ str, str = strOfNums c2 := ⟨_, rfl⟩
    simp only
    rw [← es] at HS ⊢
    clear hok hcl hby e nil es
    go_enter Tryz.func20, Tryz.ntmps20
    go_wp2_with fail
    refine HS.mono ?_
    rintro e w1 ⟨p3, n3, c3, rfl, h1, h2⟩
    have HF := FIN.out ⟨p3, n3, c3, rfl, h1, h2⟩
    have HFF : Hid _ := HF
    clear HF h1 h2
    go_wp2_with fail
    go_ret
    exact HFF.out
  · have hcn := hok.2.2.1 h0
    obtain ⟨c0, c1, c2⟩ := c
    simp only at h0 hcl hby hcn hcomp
    subst h0 hcn
    have HS := appComp_any k.cells.length c2 k b g vs none 0 0 [] Bt w.heap.size w w (Nat.le_refl _) hok.2.2.2.2.1 hby hcomp (Below.refl _ _) (Nat.le_refl _) (Nat.le_refl _) nil (by omega)
    clear hok hcl hby e nil hcomp
    go_enter Tryz.func20, Tryz.ntmps20
    go_wp2_with fail
    refine HS.mono ?_
    rintro e w1 ⟨p3, n3, c3, rfl, h1, h2⟩
    have HF := FIN.out ⟨p3, n3, c3, rfl, h1, h2⟩
    have HFF : Hid _ := HF
    clear HF h1 h2
    go_wp2_with fail
    go_ret
    exact HFF.out

end Go.Proofs.YtpcmfdbcjegbcaaGreatDoor
