/- Does a word lead back to itself: the program's search. Own work of the verifier. -/
import Derived.Test.YtcdcdpmjibcolaaStL
namespace Go.Proofs.Ytcdcdpmjibcolaa
open Go Go.RowKit Go.Maps
set_option linter.unusedVariables false

theorem first_of {xs : List Cel} (hs : Shp xs) {a : Nat} (ha : a < xs.length) : fW (kndA xs a) (numA xs a) = (firstK xs a : Nat) ∧ eW xs (kndA xs a) (numA xs a) = (endK xs a : Nat) ∧ firstK xs a ≤ endK xs a ∧ endK xs a ≤ xs.length ∧ (firstK xs a = endK xs a ↔ (kndA xs a ≠ 0 ∧ kndA xs a ≠ 4)) := by
  unfold fW eW firstK endK
  by_cases k0 : kndA xs a = 0
  · obtain ⟨r0, r1, _⟩ := hs.refs a ha k0
    simp only [k0, if_true]
    refine ⟨by omega, by omega, by omega, by omega, by simp⟩
  · by_cases k4 : kndA xs a = 4
    · obtain ⟨r0, r1, r2⟩ := hs.stru a ha k4
      obtain ⟨f1, f2, f3⟩ := hs.funs _ (by omega) r2
      have f4 := (f3 (numA xs (numA xs a).toNat).toNat (by omega) (by omega)).1
      simp only [k4]
      simp
      refine ⟨by omega, by omega, by omega, by omega⟩
    · simp [k0, k4]

theorem tg_head {α : Type} {r : α → α → Prop} {x y z : α} (h : r x y) (h2 : Relation.TransGen r y z) : Relation.TransGen r x z := by
  induction h2 with
  | single h' => exact .tail (.single h) h'
  | tail _ h' ih => exact .tail ih h'
/-- What leadsBack answers. -/
def BackOut (xs : List Cel) (a b N : Nat) (m : Nat → Nat) (w : World) (e : Ending) (w' : World) : Prop :=
  ∃ (r : Bool) (N' : Nat) (m' : Nat → Nat), e = .returned (.bool r) ∧ Below b w w' ∧ SMap w' b N' m' ∧ N' + 2 * unk xs.length m' ≤ N + 2 * unk xs.length m ∧
    (r = false → Acc (Kid xs) a ∧ (∀ o, m' o = 1 ↔ m o = 1) ∧ (∀ o, m' o = 2 → Acc (Kid xs) o) ∧ (∀ o, m o ≠ 0 → m' o ≠ 0) ∧ ∀ o, m' o ≤ 2) ∧ (r = true → ¬ Acc (Kid xs) a)
theorem Below.grows {b : Nat} {w w1 w2 : World} (h : Below b w w1) (hg : w1.grownBy w2 (some b)) (hlt : b < w1.heap.size) : Below b w w2 := h.grown hg (by omega) (fun k e => by cases e; exact Nat.le_refl _)

set_option maxHeartbeats 1000000 in
set_option maxRecDepth 100000 in
theorem leadsBack_any (h : Nat) (xs : List Cel) (tr : List Int) (w0 : World) (hs : Shp xs) (H : HeapAt w0 h xs tr) : ∀ (q a b N : Nat) (m : Nat → Nat) (w : World), a < xs.length → unk xs.length m < q → N + 2 * unk xs.length m ≤ 100000 → w0.heap.size ≤ b → Below w0.heap.size w0 w → SMap w b N m →
    (∀ o, m o = 1 → Relation.TransGen (Kid xs) a o) → (∀ o, m o = 2 → Acc (Kid xs) o) → (∀ o, m o ≤ 2) →
    Calls Try.prog 101 #[.pointer (some ⟨h, 0, none⟩), .int .i64 a, .map (some b)] w (BackOut xs a b N m w)
  | 0, a, b, N, m, w, ha, hq, _, _, _, _, _, _, _ => by omega
  | q + 1, a, b, N, m, w, ha, hq, hN, hb0, hB, hm, ho1, ho2, ho3 => by
    have IH : Hid _ := leadsBack_any h xs tr w0 hs H q
    have HS : Hid (Shp xs) := hs
    have HH : Hid (HeapAt w0 h xs tr) := H
    have HB : Hid (Below w0.heap.size w0 w) := hB
    have HM : Hid (SMap w b N m) := hm
    have HO1 : Hid (∀ o, m o = 1 → Relation.TransGen (Kid xs) a o) := ho1
    have HO2 : Hid (∀ o, m o = 2 → Acc (Kid xs) o) := ho2
    have HO3 : Hid (∀ o, m o ≤ 2) := ho3
    have HQ : Hid (unk xs.length m < q + 1) := hq
    have HN : Hid (N + 2 * unk xs.length m ≤ 100000) := hN
    have hl := hs.len
    have HX : Hid _ := first_of hs ha
    have HLT : Hid (b < w.heap.size) := hm.lt
    have HKA : Hid (Knds xs) := hs.knds
    obtain ⟨pw, cw, pt, ct, c0, c1, hw, hi⟩ := H.below hB
    obtain ⟨g, rfl, hc⟩ := hw (by omega)
    have hv := hc a ha
    have HBE := behind_any h (xs.getD a Cel.none) xs tr w hs (hs.knds a ha) (fun k => ⟨(hs.refs a ha k).1, (hs.refs a ha k).2.1⟩) (fun k => by have := hs.stru a ha k; simp only [funB, decide_eq_true_eq]; exact this) (H.below hB)
    rw [show fW (xs.getD a Cel.none).1 (xs.getD a Cel.none).2.1 = (firstK xs a : Nat) from HX.out.1, show eW xs (xs.getD a Cel.none).1 (xs.getD a Cel.none).2.1 = (endK xs a : Nat) from HX.out.2.1] at HBE
    generalize wv (xs.getD a Cel.none) = v at hv HBE
    obtain ⟨hx1, hx2, hx3, hx4, hx5⟩ := HX.out
    have HFE : Hid (firstK xs a = endK xs a ↔ (kndA xs a ≠ 0 ∧ kndA xs a ≠ 4)) := hx5
    have HFK : Hid (∀ y, Kid xs y a ↔ (varB xs a = false ∧ firstK xs a ≤ y ∧ y < endK xs a)) := fun y => Iff.rfl
    have HKN : Hid (∀ y, kndA xs a ≠ 0 → kndA xs a ≠ 4 → ¬ Kid xs y a) := fun y => kid_no
    generalize firstK xs a = f at HBE hx3 HFE HFK
    generalize endK xs a = z at HBE hx3 hx4 HFE HFK
    clear hc hw hi c1 hx1 hx2 hx5 HX hs H hB hm ho1 ho2 ho3 hq hN
    by_cases hfz : f = z
    · subst hfz
      go_enter Try.func101, Try.ntmps101
      go_wp2_with (go_at_call 103; refine HBE.mono ?_; rintro e w1 ⟨rfl, hb⟩)
      go_ret
      refine ⟨false, N, m, rfl, hb.mono (by have := HLT.out; omega), HM.out.below hb, Nat.le_refl _, fun _ => ⟨?_, fun o => Iff.rfl, HO2.out, fun o h => h, HO3.out⟩, fun h => by cases h⟩
      exact Acc.intro _ fun y hy => absurd hy (HKN.out y (HFE.out.1 (by trivial)).1 (HFE.out.1 (by trivial)).2)
    · have hfz' : ((f : Int) == (z : Int)) = false := by simp; omega
      have hfl : f < z := by omega
      have HV : Hid (∀ W, Below w.heap.size w W → Calls Try.prog 61 #[.pointer (some ⟨h, 0, none⟩), .int .i64 a] W fun e w' => e = .returned (.bool (varB xs a)) ∧ Below W.heap.size W w') := fun W hW => holdsVariable_any h a xs tr W hl HKA.out (HH.out.below (Below.on HB.out hW))
      clear hfz
      cases hvar : varB xs a
      · rw [hvar] at HV HFK
        have hma : m a = 0 ∨ m a = 1 ∨ m a = 2 := by have := HO3.out a; omega
        go_enter Try.func101, Try.ntmps101
        go_wp2_with fail
        refine HBE.mono ?_
        rintro e w1 ⟨rfl, hb⟩
        have HB1 : Hid (Below w.heap.size w w1) := hb
        clear hb HBE
        go_wp2_with fail
        refine (HV.out w1 HB1.out).mono ?_
        rintro e w2 ⟨rfl, hb⟩
        have HB2 : Hid (Below w.heap.size w w2) := Below.on HB1.out hb
        have HM2 : Hid (SMap w2 b N m) := HM.out.below HB2.out
        clear hb HV HB1 hvar c0 hv
        rcases hma with hma | hma | hma
        · have hlk : (Instr.lookup 156 (.map (some b)) (.int .i64 a) false).run Try.prog w2 = .ok (.int .i64 0) w2 := by have := HM2.out.look a (by omega); rw [hma] at this; exact this
          have hpt : ∃ w', (Instr.mapUpdate 156 (.map (some b)) (.int .i64 a) (.int .i64 1)).run Try.prog w2 = .ok () w' ∧ SMap w' b (N + 1) (setM m a 1) ∧ w2.grownBy w' (some b) := HM2.out.put (by have := HN.out; omega) a (by omega) 1
          obtain ⟨w3, hput, hm3, hg3⟩ := hpt
          have HM3 : Hid (SMap w3 b (N + 1) (setM m a 1)) := hm3
          have HB3 : Hid (Below b w w3) := Below.grows (HB2.out.mono (by have := HLT.out; omega)) hg3 HM2.out.lt
          have HU : Hid (unk xs.length (setM m a 1) < unk xs.length m) := unk_lt ha hma (by decide)
          have HMA : Hid (m a = 0) := hma
          clear hm3 hg3 hma
          go_wp2
          go_loopw [9] (fun i wr => ∃ (k N' : Nat) (m' : Nat → Nat), f ≤ k ∧ k ≤ z ∧ i = .int .i64 k ∧ Hid (Below b w wr) ∧ Hid (SMap wr b N' m') ∧ Hid (N' + 2 * unk xs.length m' + 1 ≤ N + 2 * unk xs.length m) ∧ Hid (unk xs.length m' < unk xs.length m) ∧
            Hid (∀ o, m' o = 1 ↔ (o = a ∨ m o = 1)) ∧ Hid (∀ o, m' o = 2 → Acc (Kid xs) o) ∧ Hid (∀ o, m o ≠ 0 → m' o ≠ 0) ∧ Hid (∀ o, m' o ≤ 2) ∧ Hid (∀ y, f ≤ y → y < k → Acc (Kid xs) y)) (fun i _ => z - (intOf i).toNat)
          case atStart =>
            refine ⟨f, N + 1, setM m a 1, Nat.le_refl _, hx3, rfl, HB3.out, HM3.out, ?_, HU.out, fun o => ?_, fun o h => ?_, fun o h => ?_, fun o => ?_, fun y h1 h2 => by omega⟩
            · show _ ≤ _; have := HU.out; omega
            · unfold setM; by_cases e : o = a <;> simp [e]
            · unfold setM at h; by_cases e : o = a
              · rw [if_pos e] at h; cases h
              · rw [if_neg e] at h; exact HO2.out o h
            · unfold setM; by_cases e : o = a
              · rw [if_pos e]; decide
              · rw [if_neg e]; exact h
            · unfold setM; by_cases e : o = a
              · rw [if_pos e]; decide
              · rw [if_neg e]; exact HO3.out o
          case round =>
            obtain ⟨k, N', m', hk1, hk2, rfl, HBr, HMr, HNr, HUr, HR1, HR2, HR3, HR4, HR5⟩ := hrel
            by_cases hlt : k < z
            · have HKid : Hid (Kid xs k a) := (HFK.out k).2 ⟨by trivial, hk1, hlt⟩
              have HC := IH.out k b N' m' wr (by omega) (by have := HUr.out; have := HQ.out; omega) (by have := HNr.out; have := HN.out; omega) hb0 (HB.out.trans (HBr.out.mono hb0)) HMr.out
                (fun o ho => by
                  rcases (HR1.out o).1 ho with rfl | h
                  · exact .single HKid.out
                  · exact tg_head HKid.out (HO1.out o h)) HR2.out HR4.out
              clear IH
              go_wp2_with fail
              refine HC.mono ?_
              rintro e w4 ⟨r, N2, m2, rfl, hb4, hm4, hn4, hr0, hr1⟩
              have HB4 : Hid (Below b w w4) := HBr.out.trans hb4
              have HM4 : Hid (SMap w4 b N2 m2) := hm4
              have HN4 : Hid (N2 + 2 * unk xs.length m2 ≤ N' + 2 * unk xs.length m') := hn4
              clear hb4 hm4 hn4 HC
              cases r
              · have H0 : Hid _ := hr0 rfl
                clear hr0 hr1
                go_wp2
                go_roundw
                case rel =>
                  obtain ⟨a1, a2, a3, a4, a5⟩ := H0.out
                  have u := unk_le (n := xs.length) a4
                  refine ⟨k + 1, N2, m2, by omega, by omega, by go_num, HB4.out, HM4.out, ?_, ?_, fun o => (a2 o).trans (HR1.out o), a3, fun o h => a4 o (HR3.out o h), a5, fun y h1 h2 => ?_⟩
                  · show _ ≤ _; have := HN4.out; have := HNr.out; omega
                  · show _ < _; have := HUr.out; omega
                  · rcases Nat.lt_or_eq_of_le (Nat.lt_succ_iff.1 h2) with h2 | rfl
                    · exact HR5.out y h1 h2
                    · exact a1
                case measure => simp [intOf]; omega
              · have H1 : Hid _ := hr1 rfl
                clear hr0 hr1
                go_wp2
                go_ret
                refine ⟨true, N2, m2, rfl, HB4.out, HM4.out, by have := HN4.out; have := HNr.out; omega, fun h => (by cases h), fun _ hacc => ?_⟩
                exact H1.out (hacc.inv HKid.out)
            · obtain rfl : k = z := by omega
              have hpt : ∃ w', (Instr.mapUpdate 156 (.map (some b)) (.int .i64 a) (.int .i64 2)).run Try.prog wr = .ok () w' ∧ SMap w' b (N' + 1) (setM m' a 2) ∧ wr.grownBy w' (some b) := HMr.out.put (by have := HNr.out; have := HN.out; omega) a (by omega) 2
              obtain ⟨w5, hput5, hm5, hg5⟩ := hpt
              have HM5 : Hid (SMap w5 b (N' + 1) (setM m' a 2)) := hm5
              have HB5 : Hid (Below b w w5) := Below.grows HBr.out hg5 HMr.out.lt
              clear hm5 hg5 hput hlk IH
              go_wp2
              go_ret
              have hacc : Acc (Kid xs) a := Acc.intro _ fun y hy => HR5.out y ((HFK.out y).1 hy).2.1 ((HFK.out y).1 hy).2.2
              have u : unk xs.length (setM m' a 2) ≤ unk xs.length m' := unk_le fun o h => by
                unfold setM; by_cases e : o = a
                · rw [if_pos e]; decide
                · rw [if_neg e]; exact h
              refine ⟨false, N' + 1, setM m' a 2, rfl, HB5.out, HM5.out, by have := HNr.out; omega, fun _ => ⟨hacc, fun o => ?_, fun o h => ?_, fun o h => ?_, fun o => ?_⟩, fun h => by cases h⟩
              · unfold setM; by_cases e : o = a
                · subst e; simp [HMA.out]
                · rw [if_neg e, HR1.out o]; simp [e]
              · unfold setM at h; by_cases e : o = a
                · subst e; exact hacc
                · rw [if_neg e] at h; exact HR2.out o h
              · unfold setM; by_cases e : o = a
                · rw [if_pos e]; decide
                · rw [if_neg e]; exact HR3.out o h
              · unfold setM; by_cases e : o = a
                · rw [if_pos e]; decide
                · rw [if_neg e]; exact HR4.out o
        · have hlk : (Instr.lookup 156 (.map (some b)) (.int .i64 a) false).run Try.prog w2 = .ok (.int .i64 1) w2 := by have := HM2.out.look a (by omega); rw [hma] at this; exact this
          have HMA : Hid (m a = 1) := hma
          clear hma
          go_wp2
          go_ret
          exact ⟨true, N, m, rfl, HB2.out.mono (by have := HLT.out; omega), HM2.out, Nat.le_refl _, fun h => (by cases h), fun _ => acc_loop (HO1.out a HMA.out)⟩
        · have hlk : (Instr.lookup 156 (.map (some b)) (.int .i64 a) false).run Try.prog w2 = .ok (.int .i64 2) w2 := by have := HM2.out.look a (by omega); rw [hma] at this; exact this
          have HMA : Hid (m a = 2) := hma
          clear hma
          go_wp2
          go_ret
          exact ⟨false, N, m, rfl, HB2.out.mono (by have := HLT.out; omega), HM2.out, Nat.le_refl _, fun _ => ⟨HO2.out a HMA.out, fun o => Iff.rfl, HO2.out, fun o h => h, HO3.out⟩, fun h => by cases h⟩
      · rw [hvar] at HV
        have HVR : Hid (varB xs a = true) := hvar
        clear hvar
        go_enter Try.func101, Try.ntmps101
        go_wp2_with fail
        refine HBE.mono ?_
        rintro e w1 ⟨rfl, hb⟩
        have HB1 : Hid (Below w.heap.size w w1) := hb
        clear hb HBE
        go_wp2_with fail
        refine (HV.out w1 HB1.out).mono ?_
        rintro e w2 ⟨rfl, hb⟩
        have HB2 : Hid (Below w.heap.size w w2) := Below.on HB1.out hb
        clear hb HV HB1 c0 hv
        go_wp2
        go_ret
        refine ⟨false, N, m, rfl, HB2.out.mono (by have := HLT.out; omega), HM.out.below HB2.out, Nat.le_refl _, fun _ => ⟨?_, fun o => Iff.rfl, HO2.out, fun o h => h, HO3.out⟩, fun h => by cases h⟩
        exact Acc.intro _ fun y hy => by have := hy.1; rw [HVR.out] at this; cases this

end Go.Proofs.Ytcdcdpmjibcolaa
