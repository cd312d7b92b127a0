/- Stores and cells marked and held. Own work of the verifier. -/
import Derived.Test.YtcdcdpmjibcolaaLawVS
import Derived.Test.YtcdcdpmjibcolaaIntM
import Derived.Test.YtcdcdpmjibcolaaMarkH
import Derived.Test.YtcdcdpmjibcolaaMark
namespace Go.Proofs.Ytcdcdpmjibcolaa
open Go Go.RowKit
set_option linter.unusedVariables false

theorem Keep.widen {B U B' U' : Nat} {w w' : World} (h : Keep B U w w') (hB : B' ≤ B) (hU : U ≤ U') : Keep B' U' w w' := ⟨h.os, h.tape, h.output, h.size, fun k hk hp => h.block k hk (by omega)⟩
theorem Keep.alloc {B U : Nat} {w w' : World} (h : Keep B U w w') (o : Obj) : Keep B U w (w'.alloc o) := h.trans ⟨rfl, rfl, rfl, by simp, fun k hk _ => Below.heap_alloc _ _ _ hk⟩
theorem Keep.new (B U : Nat) (w : World) (o : Obj) : Keep B U w (w.alloc o) := (Keep.refl B U w).alloc o

theorem endC_eqM (k : Int) (cs : List Cel) : endC k cs = k + 2 * cs.length + tl cs := by simp [endC, kAt]
theorem markCell_any (B U : Nat) (k n : Int) (p : Option Addr) (m c : Nat) (kk : Int) (t : List Int) (w : World) (h0 : 0 ≤ kk) (h1 : kk ≤ 1000000000000) (hn : m ≤ 1000000000) (hU : ∀ g, tb p m = some g → g < U) (hown : OwnT w B p m c t) :
    Calls Try.prog 18 #[.agg #[.int .i64 k, .int .i64 n, .slice p m c], .int .i64 kk] w fun e w' => e = .returned (.int .i64 (kk + m)) ∧ OwnT w' B p m c (marks kk m) ∧ Keep B U w w' := by
  have HM := markT_any B p m c kk t (w.alloc (.cells #[.int .i64 k, .int .i64 n, .slice p m c] 31)) h0 h1 hn (hown.below ((Below.refl _ _).alloc (Nat.le_refl _) _))
  have HK : Hid (∀ w', (w.alloc (.cells #[.int .i64 k, .int .i64 n, .slice p m c] 31)).grownBy w' (tb p m) → Keep B U w w') := fun w' hg => (Keep.new B U w _).trans (Keep.of_grown hg (fun g e => ⟨(hown.tb e).2.1, hU g e⟩))
  clear hown hU
  go_enter Try.func18, Try.ntmps18
  go_wp2_with (go_at_call 49; refine HM.mono ?_; rintro e w1 ⟨rfl, ho, hg⟩)
  go_ret
  exact ⟨rfl, ho, HK.out _ hg⟩

theorem heldCell_any (k n : Int) (p : Option Addr) (m c : Nat) (kk : Int) (w : World) (h0 : 0 ≤ kk) (h1 : kk ≤ 1000000000000) (hn : m ≤ 1000000000) (hin : BIn w p (marks kk m)) :
    Calls Try.prog 19 #[.agg #[.int .i64 k, .int .i64 n, .slice p m c], .int .i64 kk] w fun e w' => e = .returned (.int .i64 (kk + m)) ∧ Below w.heap.size w w' := by
  have HM := held_any p m c kk (w.alloc (.cells #[.int .i64 k, .int .i64 n, .slice p m c] 31)) h0 h1 hn (hin.below ((Below.refl _ _).alloc (Nat.le_refl _) _))
  have hpos : ¬ (kk + (m : Int) < 0) := by omega
  clear hin
  go_enter Try.func19, Try.ntmps19
  go_wp2_with (go_at_call 50; refine HM.mono ?_; rintro e w1 ⟨rfl, rfl⟩)
  go_ret
  exact ⟨rfl, (Below.refl _ _).alloc (Nat.le_refl _) _⟩

set_option maxRecDepth 100000 in
theorem markStore_any (B M U : Nat) (p q : Option Addr) (n m c1 c2 : Nat) (k : Int) (xs : List Cel) (tr : List Int) (w : World) (h0 : 0 ≤ k) (h1 : k ≤ 10000000) (hx : xs.length + tl xs ≤ 100000000) (hm : m ≤ 100000000) (hBM : B ≤ M) (hMU : M ≤ U) (hU : U ≤ w.heap.size) (hq : ∀ g, Value.ownBlock (.slice q m c2) = some g → g < U) (hown : OwnCU w B M p n c1 xs) (hint : OwnI w M 3 q m c2 tr) :
    Calls Try.prog 17 #[.agg #[.slice p n c1, .slice q m c2], .int .i64 k] w fun e w' => e = .returned (.int .i64 (endC k xs + m)) ∧ (OwnCU w' B M p n c1 (markC k xs) ∧ OwnI w' M 3 q m c2 (ups (endC k xs) m)) ∧ Keep B U w w' := by
  obtain ⟨W0, eW0⟩ : ∃ W0, W0 = w.alloc (.cells #[.slice p n c1, .slice q m c2] 36) := ⟨_, rfl⟩
  have hb0 : Below w.heap.size w W0 := by rw [eW0]; exact (Below.refl _ _).alloc (Nat.le_refl _) _
  have H1 := markCells_any B M p n c1 k xs W0 h0 h1 hx (hown.below hb0)
  have k0 : W0.heap[w.heap.size]? = some (.cells #[.slice p n c1, .slice q m c2] 36) := by rw [eW0]; exact heap_alloc_new _ _
  have hz : W0.heap.size = w.heap.size + 1 := by rw [eW0]; simp
  have HI : Hid (OwnI W0 M 3 q m c2 tr) := hint.below hb0
  have hke : 0 ≤ endC k xs ∧ endC k xs ≤ 1000000000000 := by rw [endC_eqM]; omega
  generalize endC k xs = ke at H1 hke ⊢
  have HC : Hid (∀ w1, Keep B M W0 w1 → w1.cell? ⟨w.heap.size, 1, none⟩ = some (.slice q m c2) ∧ OwnI w1 M 3 q m c2 tr) := fun w1 hk => by
    have j0 := (hk.block w.heap.size (by omega) (by omega)).trans k0
    refine ⟨by simp [World.cell?, j0], HI.out.1, ⟨HI.out.2.1, ?_⟩⟩
    rcases HI.out.2.2 with h' | ⟨g, cap, cur, hv, hB, hg, r⟩
    · exact .inl h'
    · exact .inr ⟨g, cap, cur, hv, hB, (hk.block g (Array.getElem?_eq_some_iff.1 hg).1 (.inr hB)).trans hg, r⟩
  have HF : Hid (∀ w1 w2, Keep B M W0 w1 → w1.grownBy w2 (Value.ownBlock (.slice q m c2)) → OwnCU w1 B M p n c1 (markC k xs) → OwnCU w2 B M p n c1 (markC k xs) ∧ Keep B U w w2) := fun w1 w2 hk hg ho => by
    have hrow : ∀ g, Value.ownBlock (.slice q m c2) = some g → M ≤ g := fun g e => (HI.out.2.lt g e).1
    refine ⟨ho.other hg.size (fun j hj _ hj2 => hg.block j hj (fun e => by have := hrow j e.symm; omega)), ?_⟩
    have a1 : Keep B U w W0 := by rw [eW0]; exact Keep.new B U w _
    exact (a1.trans (hk.widen (Nat.le_refl _) hMU)).trans (Keep.of_grown hg (fun g e => ⟨Nat.le_trans hBM (hrow g e), hq g e⟩))
  have HM : Hid (∀ w1, OwnI w1 M 3 q m c2 tr → Calls Try.prog 48 #[.slice q m c2, .int .i64 ke] w1 fun e w' => e = .returned (.int .i64 (ke + m)) ∧ OwnI w' M 3 q m c2 (ups ke m) ∧ w1.grownBy w' (Value.ownBlock (.slice q m c2))) := fun w1 h => markIntS_any M q m c2 ke tr w1 hke.1 hke.2 (by omega) h
  rw [eW0] at H1
  have HE0 : Hid _ := eW0
  clear hown hint hb0 k0 hz hq hBM hMU hU HI eW0 hx
  go_enter Try.func17, Try.ntmps17
  go_wp2_with fail
  refine H1.mono ?_
  rintro e w1 ⟨rfl, ho1, hk1⟩
  rw [← HE0.out] at hk1
  obtain ⟨s1, hi1⟩ := HC.out w1 hk1
  have HM1 := HM.out w1 hi1
  have HO1 : Hid (OwnCU w1 B M p n c1 (markC k xs) ∧ Keep B M W0 w1) := ⟨ho1, hk1⟩
  clear H1 HM HC ho1 hk1 hi1
  go_wp2_with (go_at_call 48; refine HM1.mono ?_; rintro e w2 ⟨rfl, ho2, hg2⟩)
  go_ret
  obtain ⟨f1, f2⟩ := HF.out w1 w2 HO1.out.2 hg2 HO1.out.1
  exact ⟨rfl, ⟨f1, ho2⟩, f2⟩

set_option maxRecDepth 100000 in
theorem heldStore_any (p q : Option Addr) (n m c1 c2 : Nat) (k : Int) (xs : List Cel) (w : World) (h0 : 0 ≤ k) (h1 : k ≤ 10000000) (hx : xs.length + tl xs ≤ 100000000) (hm : m ≤ 100000000) (hn : n = xs.length) (hc : CIn w p (markC k xs)) (hi : IIn w q (ups (endC k xs) m)) :
    Calls Try.prog 22 #[.agg #[.slice p n c1, .slice q m c2], .int .i64 k] w fun e w' => e = .returned (.int .i64 (endC k xs + m)) ∧ Below w.heap.size w w' := by
  obtain ⟨W0, eW0⟩ : ∃ W0, W0 = w.alloc (.cells #[.slice p n c1, .slice q m c2] 36) := ⟨_, rfl⟩
  have hb0 : Below w.heap.size w W0 := by rw [eW0]; exact (Below.refl _ _).alloc (Nat.le_refl _) _
  have H1 := heldCells_any p n c1 k xs W0 h0 h1 (by omega) hn (hc.below hb0)
  have k0 : W0.heap[w.heap.size]? = some (.cells #[.slice p n c1, .slice q m c2] 36) := by rw [eW0]; exact heap_alloc_new _ _
  have hke : 0 ≤ endC k xs ∧ endC k xs ≤ 1000000000000 := by rw [endC_eqM]; omega
  have HI : Hid (IIn W0 q (ups (endC k xs) m)) := hi.below hb0
  generalize endC k xs = ke at H1 hke HI ⊢
  have H2 := heldIntS_any q m c2 ke W0 hke.1 hke.2 (by omega) HI.out
  have p1 : ¬ ke < 0 := by omega
  have p2 : ¬ (ke + (m : Int) < 0) := by omega
  have s1 : W0.cell? ⟨w.heap.size, 1, none⟩ = some (.slice q m c2) := by simp [World.cell?, k0]
  have HB : Hid _ := hb0
  rw [eW0] at H1 H2 s1
  have HE0 : Hid _ := eW0
  clear hc hi hb0 k0 HI eW0 hx hn
  go_enter Try.func22, Try.ntmps22
  go_wp2_with fail
  refine H1.mono ?_
  rintro e w1 ⟨rfl, rfl⟩
  go_wp2_with (go_at_call 59; refine H2.mono ?_; rintro e w2 ⟨rfl, rfl⟩)
  go_ret
  exact ⟨rfl, by rw [← HE0.out]; exact HB.out⟩

end Go.Proofs.Ytcdcdpmjibcolaa
