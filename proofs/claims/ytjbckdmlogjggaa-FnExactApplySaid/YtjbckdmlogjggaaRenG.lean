/- renumber, cellsOf. Own work of the verifier. -/
import Derived.Test.YtjbckdmlogjggaaRen1
import Derived.Test.YtjbckdmlogjggaaCp1
namespace Go.Proofs.Ytjbckdmlogjggaa
open Go Go.RowKit Go.Maps
set_option linter.unusedVariables false

set_option maxRecDepth 100000 in
theorem cellsOf_any (c : Cel) (k : Fo) (v : Value) (Bt : Nat) (w : World) (hok : (Fo.node c k .nil).ok) (hfo : FoIn w Bt (.node c k .nil) [v]) (hl : k.cells.length ≤ 10000) :
    Calls Try.prog 46 #[v] w fun e w' => ∃ p n cp, e = .returned (.slice p n cp) ∧ OwnC w' w.heap.size p n cp (c :: k.cells) ∧ Below w.heap.size w w' := by
  have nil := OwnC.nil w w.heap.size
  have fin : ∀ {e : Ending} {w' : World}, AppOut w w.heap.size [] (c :: k.cells) e w' → ∃ p n cp, e = .returned (.slice p n cp) ∧ OwnC w' w.heap.size p n cp (c :: k.cells) ∧ Below w.heap.size w w' := fun ⟨p, n, cp, h1, h2, h3⟩ => ⟨p, n, cp, h1, by simpa using h2, h3⟩
  have FIN : Hid _ := @fin
  clear fin
  obtain ⟨v', vr, e, hnode, _⟩ := hfo
  obtain ⟨rfl, rfl⟩ := List.cons.inj e
  have hcl := hok.1
  have hby := hok.2.1
  rcases hnode with ⟨h0, rfl⟩ | ⟨h0, rfl⟩ | ⟨h0, rfl⟩ | ⟨h0, b, g, vs, rfl, hcomp⟩
  · have hk : k = .nil := hok.2.2.2.1 (by rw [h0]; decide)
    obtain ⟨c0, c1, c2⟩ := c
    simp only at h0 hcl
    subst h0 hk
    have e2 : c2 = [] := by simp [cellB] at hcl; exact hcl.2.2
    subst e2
    have HS := appVar_any c1 none 0 0 [] w.heap.size w (Nat.le_refl _) (by decide) nil
    clear hok hcl hby e nil
    go_enter Try.func46, Try.ntmps46
    go_wp2_with fail
    refine HS.mono ?_
    rintro e w1 ⟨p3, n3, c3, rfl, h1, h2⟩
    have HF := FIN.out ⟨p3, n3, c3, rfl, h1, h2⟩
    have HFF : Hid _ := HF
    clear HF h1 h2
    go_wp2_with fail
    go_ret
    exact HFF.out
  · have hk : k = .nil := hok.2.2.2.1 (by rw [h0]; decide)
    obtain ⟨c0, c1, c2⟩ := c
    simp only at h0 hcl
    subst h0 hk
    have e2 : c2 = [] := by simp [cellB] at hcl; exact hcl.2.2
    subst e2
    have HS := appNum_any c1 none 0 0 [] w.heap.size w (Nat.le_refl _) (by decide) nil
    clear hok hcl hby e nil
    go_enter Try.func46, Try.ntmps46
    go_wp2_with fail
    refine HS.mono ?_
    rintro e w1 ⟨p3, n3, c3, rfl, h1, h2⟩
    have HF := FIN.out ⟨p3, n3, c3, rfl, h1, h2⟩
    have HFF : Hid _ := HF
    clear HF h1 h2
    go_wp2_with fail
    go_ret
    exact HFF.out
  · have hk : k = .nil := hok.2.2.2.1 (by rw [h0]; decide)
    obtain ⟨c0, c1, c2⟩ := c
    simp only at h0 hcl hby
    subst h0 hk
    have e2 : c1 = 0 := by simp [cellB] at hcl; exact hcl.2
    subst e2
    have HS := appAtom_any c2 hby none 0 0 [] w.heap.size w (Nat.le_refl _) (by decide) nil
    obtain ⟨str, es⟩ : ∃ str, str = strOfNums c2 := ⟨_, rfl⟩
    simp only
    rw [← es] at HS ⊢
    clear hok hcl hby e nil es
    go_enter Try.func46, Try.ntmps46
    go_wp2_with fail
    refine HS.mono ?_
    rintro e w1 ⟨p3, n3, c3, rfl, h1, h2⟩
    have HF := FIN.out ⟨p3, n3, c3, rfl, h1, h2⟩
    have HFF : Hid _ := HF
    clear HF h1 h2
    go_wp2_with fail
    go_ret
    exact HFF.out
  · have hcn := hok.2.2.1 h0
    obtain ⟨c0, c1, c2⟩ := c
    simp only at h0 hcl hby hcn hcomp
    subst h0 hcn
    have HS := appComp_any k.cells.length c2 k b g vs none 0 0 [] Bt w.heap.size w w (Nat.le_refl _) hok.2.2.2.2.1 hby hcomp (Below.refl _ _) (Nat.le_refl _) (Nat.le_refl _) nil (by omega)
    clear hok hcl hby e nil hcomp
    go_enter Try.func46, Try.ntmps46
    go_wp2_with fail
    refine HS.mono ?_
    rintro e w1 ⟨p3, n3, c3, rfl, h1, h2⟩
    have HF := FIN.out ⟨p3, n3, c3, rfl, h1, h2⟩
    have HFF : Hid _ := HF
    clear HF h1 h2
    go_wp2_with fail
    go_ret
    exact HFF.out
set_option maxRecDepth 100000 in
theorem renumber_any (c : Cel) (k : Fo) (v : Value) (Bt : Nat) (w : World) (hok : (Fo.node c k .nil).ok) (hfo : FoIn w Bt (.node c k .nil) [v]) (hl : k.cells.length ≤ 10000) :
    Calls Try.prog 37 #[v] w fun e w' => ∃ v', e = .returned v' ∧ FoIn w' w.heap.size (.node (renI (visits [] (c :: k.cells)) c) (k.map (renI (visits [] (c :: k.cells)))) .nil) [v'] ∧ Below w.heap.size w w' := by
  have hmm := @run_makeMap Try.prog
  obtain ⟨vt, vx, rfl⟩ := hfo.iface
  have hW : Below w.heap.size w ((w.alloc (Obj.map #[] 0)).alloc (Obj.cells #[Value.map (some w.heap.size)] 104)) := ((Below.refl _ _).alloc (Nat.le_refl _) _).alloc (by simp) _
  have hnew := heap_alloc_new (w.alloc (Obj.map #[] 0)) (Obj.cells #[Value.map (some w.heap.size)] 104)
  have e1 : (w.alloc (Obj.map #[] 0)).heap.size = w.heap.size + 1 := by simp
  rw [e1] at hnew
  have hS : RState ((w.alloc (Obj.map #[] 0)).alloc (Obj.cells #[Value.map (some w.heap.size)] 104)) (w.heap.size + 1) w.heap.size [] := ⟨cell_of_row _ _ 0 _ _ _ hnew, (NumMap.made w).of_block (Below.heap_alloc _ _ _ (by simp))⟩
  have HR := replace_any k.cells.length c k _ Bt (w.heap.size + 1) w.heap.size [] w _ (Nat.le_refl _) hok hfo hW (Nat.le_refl _) hS (by simp; omega)
  have HW : Hid _ := hW
  clear hok hfo hS hW hnew e1
  go_enter Try.func37, Try.ntmps37
  go_wp2_with fail
  refine HR.mono ?_
  rintro e w1 ⟨v1, rfl, hst, hg, hf⟩
  have hfo := hf _ List.prefix_rfl
  obtain ⟨nt, nx, rfl⟩ := hfo.iface
  have HF : Hid (FoIn w1 w.heap.size (.node (renI (visits [] (c :: k.cells)) c) (k.map (renI (visits [] (c :: k.cells)))) .nil) [.iface nt nx]) := hfo.mono (by simp; omega)
  have HB : Hid (Below w.heap.size w w1) := HW.out.trans (grown_below hg (by simp; omega) (Nat.le_refl _))
  clear hf hst hg hfo HR
  go_wp2_with fail
  go_ret
  exact ⟨_, rfl, HF.out, HB.out⟩
/-- The cells of which each variable has its place as its number. -/
def renCells (cs : List Cel) : List Cel := cs.map (renI (visits [] cs))

end Go.Proofs.Ytjbckdmlogjggaa
