/- Subsumes, both sides. Own work of the verifier. -/
import Derived.Test.YtjbckdmlogjggaaSub1
import Derived.Test.YtjbckdmlogjggaaSub3
namespace Go.Proofs.Ytjbckdmlogjggaa
open Go Go.RowKit
set_option linter.unusedVariables false

set_option maxRecDepth 100000 in
set_option maxHeartbeats 1000000 in
theorem specSubs_bad (xs ys : List Cel) (p q : Option Addr) (w : World) (hn : xs.length ≤ 1000000000) (hm : ys.length ≤ 1000000000) (hp : CIn w p xs) (hq : CIn w q ys) (hb : ¬ (validB xs = true ∧ validB ys = true)) :
    Calls Try.prog 8 #[.slice p xs.length xs.length, .slice q ys.length ys.length] w fun e w' => e = .returned (.bool false) ∧ Below w.heap.size w w' := by
  have HV1 := specValid_any p xs.length xs w hn hp
  by_cases h1 : validB xs = true
  · have HV2 : Hid (∀ W, Below w.heap.size w W → Calls Try.prog 26 #[.slice q ys.length ys.length] W fun e w' => e = .returned (.bool (validB ys)) ∧ Below W.heap.size W w') := fun W hW => specValid_any q ys.length ys W hm (hq.below hW)
    rw [h1] at HV1
    have h2' : validB ys = false := by
      cases h : validB ys with
      | false => rfl
      | true => exact (hb ⟨h1, h⟩).elim
    rw [h2'] at HV2
    clear h1 h2' hp hq hb
    go_enter Try.func8, Try.ntmps8
    go_wp2_with fail
    refine HV1.mono ?_
    rintro e w1 ⟨rfl, hb1⟩
    have HB1 : Hid (Below w.heap.size w w1) := hb1
    clear hb1 HV1
    go_wp2_with fail
    refine (HV2.out w1 HB1.out).mono ?_
    rintro e w2 ⟨rfl, hb2⟩
    have HB2 : Hid (Below w.heap.size w w2) := Below.on HB1.out hb2
    clear hb2
    go_wp2_with fail
    go_ret
    exact ⟨rfl, HB2.out⟩
  · have h1' : validB xs = false := by simpa using h1
    rw [h1'] at HV1
    clear h1 h1' hp hq hb
    go_enter Try.func8, Try.ntmps8
    go_wp2_with fail
    refine HV1.mono ?_
    rintro e w1 ⟨rfl, hb1⟩
    go_wp2_with fail
    go_ret
    exact ⟨rfl, hb1⟩

set_option maxRecDepth 100000 in
set_option maxHeartbeats 1000000 in
theorem implSubs_bad (xs ys : List Cel) (p q : Option Addr) (w : World) (hn : xs.length ≤ 1000000000) (hm : ys.length ≤ 1000000000) (hp : CIn w p xs) (hq : CIn w q ys) (hb : ¬ (validB xs = true ∧ validB ys = true)) :
    Calls Try.prog 10 #[.slice p xs.length xs.length, .slice q ys.length ys.length] w fun e w' => e = .returned (.bool false) ∧ Below w.heap.size w w' := by
  have HV1 := implValid_any p xs.length xs w hn hp
  by_cases h1 : validB xs = true
  · have HV2 : Hid (∀ W, Below w.heap.size w W → Calls Try.prog 31 #[.slice q ys.length ys.length] W fun e w' => e = .returned (.bool (validB ys)) ∧ Below W.heap.size W w') := fun W hW => implValid_any q ys.length ys W hm (hq.below hW)
    rw [h1] at HV1
    have h2' : validB ys = false := by
      cases h : validB ys with
      | false => rfl
      | true => exact (hb ⟨h1, h⟩).elim
    rw [h2'] at HV2
    clear h1 h2' hp hq hb
    go_enter Try.func10, Try.ntmps10
    go_wp2_with fail
    refine HV1.mono ?_
    rintro e w1 ⟨rfl, hb1⟩
    have HB1 : Hid (Below w.heap.size w w1) := hb1
    clear hb1 HV1
    go_wp2_with fail
    refine (HV2.out w1 HB1.out).mono ?_
    rintro e w2 ⟨rfl, hb2⟩
    have HB2 : Hid (Below w.heap.size w w2) := Below.on HB1.out hb2
    clear hb2
    go_wp2_with fail
    go_ret
    exact ⟨rfl, HB2.out⟩
  · have h1' : validB xs = false := by simpa using h1
    rw [h1'] at HV1
    clear h1 h1' hp hq hb
    go_enter Try.func10, Try.ntmps10
    go_wp2_with fail
    refine HV1.mono ?_
    rintro e w1 ⟨rfl, hb1⟩
    go_wp2_with fail
    go_ret
    exact ⟨rfl, hb1⟩

theorem specSubs_any (xs ys : List Cel) (R : Bool) (p q : Option Addr) (w : World) (hR : SubsIs xs ys R) (hn : xs.length ≤ 1000000000) (hm : ys.length ≤ 1000000000) (hp : CIn w p xs) (hq : CIn w q ys) :
    Calls Try.prog 8 #[.slice p xs.length xs.length, .slice q ys.length ys.length] w fun e w' => e = .returned (.bool R) ∧ Below w.heap.size w w' := by
  rcases hR with ⟨h1, h2, c, k, c', k', ex, ey, hok, hok', hlx, hly, hR⟩ | ⟨hb, rfl⟩
  · exact specSubs_loop xs ys R c c' k k' p q w ex ey hok hok' hlx hly hR h1 h2 hp hq
  · exact specSubs_bad xs ys p q w hn hm hp hq hb

set_option maxRecDepth 100000 in
set_option maxHeartbeats 1000000 in
theorem implSubs_any (xs ys : List Cel) (R : Bool) (p q : Option Addr) (w : World) (hR : SubsIs xs ys R) (hn : xs.length ≤ 1000000000) (hm : ys.length ≤ 1000000000) (hp : CIn w p xs) (hq : CIn w q ys) :
    Calls Try.prog 10 #[.slice p xs.length xs.length, .slice q ys.length ys.length] w fun e w' => e = .returned (.bool R) ∧ Below w.heap.size w w' := by
  rcases hR with ⟨h1, h2, c, k, c', k', ex, ey, hok, hok', hlx, hly, hR⟩ | ⟨hb, rfl⟩
  · have HV1 := implValid_any p xs.length xs w hn hp
    have HV2 : Hid (∀ W, Below w.heap.size w W → Calls Try.prog 31 #[.slice q ys.length ys.length] W fun e w' => e = .returned (.bool (validB ys)) ∧ Below W.heap.size W w') := fun W hW => implValid_any q ys.length ys W hm (hq.below hW)
    rw [h1] at HV1
    rw [h2] at HV2
    obtain ⟨n, en⟩ : ∃ n, n = xs.length := ⟨_, rfl⟩
    obtain ⟨m, em⟩ : ∃ m, m = ys.length := ⟨_, rfl⟩
    rw [← en] at HV1 hn hlx ⊢
    rw [← em] at HV2 hm hly ⊢
    have hk1 : k.cells.length ≤ 10000 := by rw [en, ex] at hlx; simp at hlx; omega
    have hk2 : k'.cells.length ≤ 10000 := by rw [em, ey] at hly; simp at hly; omega
    have HX : Hid ((Fo.node c k .nil).ok ∧ (Fo.node c' k' .nil).ok ∧ R = (subF [] (.node c k .nil) (.node c' k' .nil)).isSome) := ⟨hok, hok', hR⟩
    have HT1 : Hid (∀ W, Below w.heap.size w W → Calls Try.prog 33 #[.slice p n n] W fun e w' => ∃ v, e = .returned v ∧ FoIn w' W.heap.size (.node c k .nil) [v] ∧ Below W.heap.size W w') := fun W hW => termOf_any c k p n n W hok (by rw [en, ex]; simp) (Nat.le_refl _) hn (by have := hp.below hW; rwa [ex] at this)
    have HT2 : Hid (∀ W, Below w.heap.size w W → Calls Try.prog 33 #[.slice q m m] W fun e w' => ∃ v, e = .returned v ∧ FoIn w' W.heap.size (.node c' k' .nil) [v] ∧ Below W.heap.size W w') := fun W hW => termOf_any c' k' q m m W hok' (by rw [em, ey]; simp) (Nat.le_refl _) hm (by have := hq.below hW; rwa [ey] at this)
    clear h1 h2 hp hq ex ey en em hok hok' hR
    go_enter Try.func10, Try.ntmps10
    go_wp2_with fail
    refine HV1.mono ?_
    rintro e w1 ⟨rfl, hb1⟩
    have HB1 : Hid (Below w.heap.size w w1) := hb1
    clear hb1 HV1
    go_wp2_with fail
    refine (HV2.out w1 HB1.out).mono ?_
    rintro e w2 ⟨rfl, hb2⟩
    have HB2 : Hid (Below w.heap.size w w2) := Below.on HB1.out hb2
    clear hb2
    go_wp2_with fail
    refine (HT1.out w2 HB2.out).mono ?_
    rintro e w3 ⟨v3, rfl, hf3, hb3⟩
    have HB3 : Hid (Below w.heap.size w w3) := Below.on HB2.out hb3
    have HF3 : Hid (FoIn w3 w2.heap.size (.node c k .nil) [v3]) := hf3
    obtain ⟨t3, y3, rfl⟩ := hf3.iface
    clear hb3 hf3
    go_wp2_with fail
    refine (HT2.out w3 HB3.out).mono ?_
    rintro e w5 ⟨v5, rfl, hf5, hb5⟩
    have HB5 : Hid (Below w.heap.size w w5) := Below.on HB3.out hb5
    have HS := subsumes_any w5 ((c, k), (c', k')) (.iface t3 y3) v5 (FoIn.mono (FoIn.below HF3.out hb5) (Nat.zero_le _)) (FoIn.mono hf5 (Nat.zero_le _)) HX.out.1 HX.out.2.1 hk1 hk2
    have he : (subF [] (Tr.fo (c, k)) (Tr.fo (c', k'))).isSome = R := HX.out.2.2.symm
    rw [he] at HS
    obtain ⟨t5, y5, rfl⟩ := hf5.iface
    clear hb5 hf5 he
    go_wp2_with fail
    refine HS.mono ?_
    rintro e w7 ⟨rfl, hb7⟩
    have HB7 : Hid (Below w.heap.size w w7) := Below.on HB5.out hb7
    clear hb7 HS
    go_wp2_with fail
    go_ret
    exact ⟨rfl, HB7.out⟩
  · exact implSubs_bad xs ys p q w hn hm hp hq hb

end Go.Proofs.Ytjbckdmlogjggaa
