/- Texts of MkU. Own work of the verifier. -/
import Derived.Test.YtedkkghekboahaaUqam
namespace Go.Proofs.Ytedkkghekboahaa
open Go Go.RowKit
set_option linter.unusedVariables false

theorem tl_le100 : ∀ cs : List Cel, (∀ c ∈ cs, c.2.2.length ≤ 100) → tl cs ≤ 100 * cs.length
  | [], _ => by simp [tl]
  | a :: r, h => by
    have h1 := tl_le100 r (fun c hc => h c (by simp [hc]))
    have h2 := h a (by simp)
    simp only [tl, List.length_cons]
    omega
set_option maxRecDepth 100000 in
theorem markStoreT_any (B M U : Nat) (p q : Option Addr) (n m c1 c2 : Nat) (k : Int) (xs : List Cel) (tr : List Int) (w : World) (h0 : 0 ≤ k) (h1 : k ≤ 10000000) (hx : xs.length + tl xs ≤ 100000000) (hm : m ≤ 100000000) (hBM : B ≤ M) (hMU : M ≤ U) (hU : U ≤ w.heap.size) (hown : OwnCU w M U p n c1 xs) (hint : OwnIU w B M q m c2 tr) :
    Calls Try.prog 17 #[.agg #[.slice p n c1, .slice q m c2], .int .i64 k] w fun e w' => e = .returned (.int .i64 (endC k xs + m)) ∧ (CIn w' p (markC k xs) ∧ IIn w' q (ups (endC k xs) m)) ∧ Keep B U w w' := by
  obtain ⟨W0, eW0⟩ : ∃ W0, W0 = w.alloc (.cells #[.slice p n c1, .slice q m c2] 36) := ⟨_, rfl⟩
  have hb0 : Below w.heap.size w W0 := by rw [eW0]; exact (Below.refl _ _).alloc (Nat.le_refl _) _
  have H1 := markCells_any M U p n c1 k xs W0 h0 h1 hx (hown.below hb0)
  have k0 : W0.heap[w.heap.size]? = some (.cells #[.slice p n c1, .slice q m c2] 36) := by rw [eW0]; exact heap_alloc_new _ _
  have hz : W0.heap.size = w.heap.size + 1 := by rw [eW0]; simp
  have HI : Hid (OwnIU W0 B M q m c2 tr) := hint.on hb0
  have hke : 0 ≤ endC k xs ∧ endC k xs ≤ 1000000000000 := by rw [endC_eqM]; omega
  generalize endC k xs = ke at H1 hke ⊢
  have HC : Hid (∀ w1, Keep M U W0 w1 → w1.cell? ⟨w.heap.size, 1, none⟩ = some (.slice q m c2) ∧ OwnIU w1 B M q m c2 tr) := fun w1 hk => by
    have j0 := (hk.block w.heap.size (by omega) (by omega)).trans k0
    exact ⟨by simp [World.cell?, j0], HI.out.keep hk (.inl (Nat.le_refl _))⟩
  have HF : Hid (∀ w1 w2, Keep M U W0 w1 → w1.grownBy w2 (Value.ownBlock (.slice q m c2)) → OwnCU w1 M U p n c1 (markC k xs) → CIn w2 p (markC k xs) ∧ Keep B U w w2) := fun w1 w2 hk hg ho => by
    have hrow : ∀ g, Value.ownBlock (.slice q m c2) = some g → B ≤ g ∧ g < M := fun g e => ⟨(HI.out.1.2.lt g e).1, HI.out.2 g e⟩
    refine ⟨(ho.other hg.size (fun j hj hj1 hj2 => hg.block j hj (fun e => by have := hrow j e.symm; omega))).toC.cin, ?_⟩
    have a1 : Keep B U w W0 := by rw [eW0]; exact Keep.new B U w _
    exact (a1.trans (hk.widen hBM (Nat.le_refl _))).trans (Keep.of_grown hg (fun g e => ⟨(hrow g e).1, by have := (hrow g e).2; omega⟩))
  have HM : Hid (∀ w1, OwnIU w1 B M q m c2 tr → Calls Try.prog 48 #[.slice q m c2, .int .i64 ke] w1 fun e w' => e = .returned (.int .i64 (ke + m)) ∧ OwnI w' B 3 q m c2 (ups ke m) ∧ w1.grownBy w' (Value.ownBlock (.slice q m c2))) := fun w1 h => markIntS_any B q m c2 ke tr w1 hke.1 hke.2 (by omega) h.1
  rw [eW0] at H1
  have HE0 : Hid _ := eW0
  clear hown hint hb0 k0 hz hBM hMU hU HI eW0 hx
  go_enter Try.func17, Try.ntmps17
  go_wp2_with fail
  refine H1.mono ?_
  rintro e w1 ⟨rfl, ho1, hk1⟩
  rw [← HE0.out] at hk1
  obtain ⟨s1, hi1⟩ := HC.out w1 hk1
  have HM1 := HM.out w1 hi1
  have HO1 : Hid (OwnCU w1 M U p n c1 (markC k xs) ∧ Keep M U W0 w1) := ⟨ho1, hk1⟩
  clear H1 HM HC ho1 hk1 hi1
  go_wp2_with (go_at_call 48; refine HM1.mono ?_; rintro e w2 ⟨rfl, ho2, hg2⟩)
  go_ret
  obtain ⟨f1, f2⟩ := HF.out w1 w2 HO1.out.2 hg2 HO1.out.1
  exact ⟨rfl, ⟨f1, ho2.iin⟩, f2⟩

end Go.Proofs.Ytedkkghekboahaa

