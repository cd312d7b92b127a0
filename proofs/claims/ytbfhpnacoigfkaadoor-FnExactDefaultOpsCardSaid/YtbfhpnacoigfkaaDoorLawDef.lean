/- The law FnExactDefaultOps, walked. Own work of the verifier. -/
import Derived.Test.YtbfhpnacoigfkaaDoorDefS
import Derived.Test.YtbfhpnacoigfkaaDoorDefI
import Derived.Test.YtbfhpnacoigfkaaDoorMarkO
import Derived.Test.YtbfhpnacoigfkaaDoorOps3
namespace Go.Proofs.YtbfhpnacoigfkaaDoor
open Go Go.RowKit
set_option linter.unusedVariables false

theorem tl_mem : ∀ (cs : List Cel) (m : Nat), (∀ c ∈ cs, c.2.2.length ≤ m) → tl cs ≤ cs.length * m
  | [], m, _ => by simp [tl]
  | c :: r, m, h => by
    have h1 := h c (List.mem_cons_self ..)
    have h2 := tl_mem r m (fun x hx => h x (List.mem_cons_of_mem _ hx))
    simp only [tl, List.length_cons, Nat.succ_mul]; omega
theorem dTab_size : dTab.length + tl dTab ≤ 100000000 := by
  have hrel := rel_fold dOps [] [] Rel.nil dOps_good (by have := dOps_len; simp; omega)
  have h1 := fold_len dOps []
  have h2 := dOps_len
  have hsub : ∀ (os cs : List Cel) (x : Cel), x ∈ os.foldl putO cs → x ∈ cs ∨ x ∈ os := fun os => by
    induction os with
    | nil => intro cs x h; exact .inl h
    | cons o r ih =>
      intro cs x h
      rcases ih (putO cs o) x h with h | h
      · have h3 : x = o ∨ x ∈ cs := by
          rw [putO] at h
          cases hz : (o.1 == 0) with
          | true => rw [hz, putL_done] at h; exact .inr (List.mem_filter.1 h).1
          | false =>
            rw [hz, putL_mem] at h
            rcases h with h | h
            · exact .inl h
            · exact .inr h.1
        rcases h3 with h3 | h3
        · right; rw [h3]; exact List.mem_cons_self ..
        · exact .inl h3
      · exact .inr (List.mem_cons_of_mem _ h)
  have h3 := tl_mem dTab 1000000 (fun c hc => by
    rcases hsub dOps [] c hc with h | h
    · cases h
    · exact (dOps_good c h).2.2.2)
  have h4 : dTab.length ≤ 60 := by simp only [List.length_nil] at h1; show (dOps.foldl putO []).length ≤ 60; omega
  have h6 : ∀ a b : Nat, a ≤ 60 → b ≤ a * 1000000 → a + b ≤ 100000000 := fun a b h1 h2 => by omega
  exact h6 _ _ h4 h3
theorem endO_pos' {k : Int} (h : 0 ≤ k) (cs : List Cel) : ¬ endO k cs < 0 := by simp only [endO, kAt]; omega

set_option maxRecDepth 100000 in
set_option maxHeartbeats 2000000 in
theorem lawDef_any (w : World) (hT : SpIn w) : Calls Tryd.prog 3 #[] w fun e w' => e = .returned (.bool true) ∧ Below w.heap.size w w' := by
  have HT : Hid (SpIn w) := hT
  have HZL : Hid (dTab.length + tl dTab ≤ 100000000) := dTab_size
  have HSP : Calls Tryd.prog 5 #[] w fun e w' => ∃ p n c, e = .returned (.slice p n c) ∧ n = dTab.length ∧ OIn w' p dTab ∧ Below w.heap.size w w' := specDef_any w
  have HIM : Hid (∀ W, Below w.heap.size w W → Calls Tryd.prog 6 #[] W fun e w' => ∃ p n c, e = .returned (.slice p n c) ∧ OwnO w' W.heap.size p n c dTab ∧ Below W.heap.size W w') := fun W hW => implDef_any W (HT.out.below hW)
  clear hT
  generalize dTab = zs at *
  go_enter Tryd.func3, Tryd.ntmps3
  go_wp2_with fail
  refine HSP.mono ?_
  rintro e w1 ⟨p1, n1, c1, rfl, hn1, ho1, hb⟩
  have HZ1 : Hid (OIn w1 p1 zs ∧ n1 = zs.length) := ⟨ho1, hn1⟩
  have HA1 : Hid (Below w.heap.size w w1) := hb
  have him := HIM.out w1 hb
  clear ho1 hn1 hb HSP
  go_wp2_with fail
  refine him.mono ?_
  rintro e w2 ⟨p2, n2, c2, rfl, ho2, hb⟩
  have HG2 : Hid (OwnOU w2 w1.heap.size w2.heap.size p2 n2 c2 zs) := ho2.up
  have HN2 : Hid (n2 = zs.length) := ho2.1
  have HA2 : Hid (Below w.heap.size w w2) := Below.on HA1.out hb
  have HB2 : Hid (Below w1.heap.size w1 w2) := hb
  clear ho2 hb him
  go_wp2_with fail
  rw [HN2.out, HZ1.out.2]
  refine (eqOpS_any p2 p1 c2 c1 zs zs w2 (by have := HZL.out; omega) (by have := HZL.out; omega) HG2.out.toO.oin (HZ1.out.1.below HB2.out)).mono ?_
  rintro e w3 ⟨rfl, hb⟩
  have ht : decide (zs = zs) = true := by simp
  rw [ht, ← HN2.out]
  clear ht
  have HG3 : Hid (OwnOU w3 w1.heap.size w2.heap.size p2 n2 c2 zs) := HG2.out.below hb
  have HA3 : Hid (Below w.heap.size w w3) := Below.on HA2.out hb
  have HB3 : Hid (Below w1.heap.size w1 w3) := Below.on HB2.out hb
  clear hb HG2
  go_wp2_with fail
  refine (markOps_any w1.heap.size w2.heap.size p2 n2 c2 1 zs w3 (by decide) (by decide) (by have := HZL.out; omega) HG3.out).mono ?_
  rintro e w4 ⟨rfl, ho4, hg⟩
  have hb : Below w1.heap.size w3 w4 := hg.below (Nat.le_refl _) HB3.out.size
  have HH4 : Hid (OIn w4 p2 (markO 1 zs)) := ho4.toO.oin
  have HA4 : Hid (Below w.heap.size w w4) := HA3.out.trans (hb.mono HA1.out.size)
  have HB4 : Hid (Below w1.heap.size w1 w4) := HB3.out.trans hb
  clear hb hg ho4 HG3
  obtain ⟨mm, emm⟩ : ∃ mm, mm = endO 1 zs := ⟨_, rfl⟩
  have hm0 : ¬ mm < 0 := by rw [emm]; exact endO_pos' (by decide) zs
  have HMM : Hid (mm = endO 1 zs) := emm
  rw [← emm]
  clear emm
  go_wp2_with fail
  refine (heldOps_any p2 n2 c2 1 zs w4 (by decide) (by decide) (by have := HZL.out; omega) HN2.out HH4.out).mono ?_
  rintro e w5 ⟨rfl, rfl⟩
  rw [← HMM.out]
  have him := HIM.out _ HA4.out
  go_wp2_with fail
  refine him.mono ?_
  rintro e w6 ⟨p6, n6, c6, rfl, ho6, hb⟩
  have HG6 : Hid (OIn w6 p6 zs ∧ n6 = zs.length) := ⟨ho6.oin, ho6.1⟩
  have HH6 : Hid (OIn w6 p2 (markO 1 zs)) := HH4.out.below hb
  have HA6 : Hid (Below w.heap.size w w6) := Below.on HA4.out hb
  have HB6 : Hid (Below w1.heap.size w1 w6) := Below.on HB4.out hb
  clear ho6 hb HH4 him
  go_wp2_with fail
  rw [HG6.out.2, HN2.out]
  refine (eqOpS_any p6 p1 c6 c1 zs zs w6 (by have := HZL.out; omega) (by have := HZL.out; omega) HG6.out.1 (HZ1.out.1.below HB6.out)).mono ?_
  rintro e w7 ⟨rfl, hb⟩
  have ht : decide (zs = zs) = true := by simp
  rw [ht]
  clear ht
  have HH7 : Hid (OIn w7 p2 (markO 1 zs)) := HH6.out.below hb
  have HA7 : Hid (Below w.heap.size w w7) := Below.on HA6.out hb
  clear hb HH6
  go_wp2_with fail
  refine (heldOps_any p2 zs.length c2 1 zs w7 (by decide) (by decide) (by have := HZL.out; omega) rfl HH7.out).mono ?_
  rintro e w8 ⟨rfl, rfl⟩
  rw [← HMM.out]
  go_wp2_with fail
  go_ret
  exact ⟨rfl, HA7.out⟩

end Go.Proofs.YtbfhpnacoigfkaaDoor
