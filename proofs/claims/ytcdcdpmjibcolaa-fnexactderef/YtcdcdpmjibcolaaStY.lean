/- A heap out of a store, whole; ValidStore of the program. Own work of the verifier. -/
import Derived.Test.YtcdcdpmjibcolaaStX
namespace Go.Proofs.Ytcdcdpmjibcolaa
open Go Go.RowKit Go.Maps
set_option linter.unusedVariables false

theorem one_wordV (c : Cel) : ∀ u ∈ [wv c], u.oneCell' = true := fun u hu => by
  simp at hu; rw [hu]; unfold wv; split <;> (try split) <;> (try split) <;> (try split) <;> rfl
theorem wv_iface (c : Cel) : ∃ ty y, wv c = .iface ty y := by
  unfold wv; split
  · exact ⟨_, _, rfl⟩
  · split
    · exact ⟨_, _, rfl⟩
    · split
      · exact ⟨_, _, rfl⟩
      · split
        · exact ⟨_, _, rfl⟩
        · exact ⟨_, _, rfl⟩
theorem take_wv (xs : List Cel) (k : Nat) (h : k < xs.length) : (xs.take (k + 1)).map wv = (xs.take k).map wv ++ [wv (xs.getD k Cel.none)] := by
  rw [List.take_succ_eq_append_getElem h, List.map_append]
  simp [List.getD, h]
/-- The words lie as those of a heap. -/
theorem Bld.win {W : World} {h : Nat} {p : Option Addr} {c : Nat} {xs : List Cel} (B : Bld W h p xs.length c (xs.map wv)) : WIn W p xs := fun hn => by
  obtain ⟨g, cap, hv, hb, hg⟩ := B.2.2.2.2.form hn
  simp only [Value.slice.injEq, true_and] at hv
  obtain ⟨rfl, rfl⟩ := hv
  exact ⟨g, rfl, fun i hi => by rw [B.2.2.2.2.cellAt i (by omega)]; simp [List.getD, hi]⟩
theorem heap_pushed {W W1 : World} {h : Nat} {p pt : Option Addr} {c ct : Nat} {xs : List Cel} {tr : List Int} (B : Bld W h p xs.length c (xs.map wv)) (hb : Below W.heap.size W W1) (ho : OwnI W1 W.heap.size 3 pt tr.length ct tr) : HeapAt (W1.setCell ⟨h, 1, none⟩ (.slice pt tr.length ct)) h xs tr := by
  have B1 := B.below hb
  have hl := B.lt
  refine ⟨p, c, pt, ct, (World.cell?_setCell_other _ _ _ _ (by simp)).trans B1.1, World.cell?_setCell_same _ _ _ (by rw [B1.2.2.1]), fun hn => ?_, fun hn => ?_⟩
  · obtain ⟨g, rfl, hc⟩ := B1.win hn
    have hg := (B1.2.2.2.2.lt g rfl).1
    exact ⟨g, rfl, fun i hi => (World.cell?_setCell_other _ _ _ _ (by simp <;> omega)).trans (hc i hi)⟩
  · obtain ⟨g, o, rfl, hc⟩ := ho.iin hn
    have hg := (ho.2.lt g rfl).1
    exact ⟨g, o, rfl, fun i hi => (World.cell?_setCell_other _ _ _ _ (by simp <;> omega)).trans (hc i hi)⟩
/-- All that a store asks, told by the parts. -/
theorem store_heap {xs : List Cel} {tr : List Int} (hl : xs.length ≤ 20000) (ht : tr.length ≤ 20000) (ho : ∀ a, a < xs.length → okW (xs.getD a Cel.none).1 (xs.getD a Cel.none).2.1 (xs.getD a Cel.none).2.2.length = true) : storeB xs tr = heapB xs tr := by
  have e : xs.all (goodC xs) = xs.all (linkC xs) := by
    cases hh : xs.all (linkC xs)
    · rw [Bool.eq_false_iff]
      intro hg
      have : xs.all (linkC xs) = true := all_at fun j hj => by
        have := List.all_eq_true.1 hg _ (mem_at hj)
        simp only [goodC, Bool.and_eq_true] at this
        exact this.2
      rw [hh] at this; cases this
    · exact good_of ho hh
  unfold storeB heapB
  rw [e, decide_eq_true hl, decide_eq_true ht]
  cases xs.all (linkC xs) <;> cases wholeF 0 xs <;> cases tr.all (isWB xs) <;> rfl
theorem store_bad {xs : List Cel} {tr : List Int} {k : Nat} (hk : k < xs.length) (ho : okW (xs.getD k Cel.none).1 (xs.getD k Cel.none).2.1 (xs.getD k Cel.none).2.2.length = false) : storeB xs tr = false := by
  have : xs.all (goodC xs) = false := all_not hk (by unfold goodC; rw [ho]; rfl)
  unfold storeB
  rw [this]; simp

/-- What heapOf answers. -/
def HeapOut (xs : List Cel) (tr : List Int) (w : World) (e : Ending) (w' : World) : Prop :=
  ∃ v, e = .returned (.tuple #[v, .bool (storeB xs tr)]) ∧ Below w.heap.size w w' ∧ (storeB xs tr = true → ∃ h, v = .pointer (some ⟨h, 0, none⟩) ∧ HeapAt w' h xs tr)

set_option maxHeartbeats 2000000 in
set_option maxRecDepth 100000 in
theorem heapOf_any (p q : Option Addr) (c1 c2 : Nat) (xs : List Cel) (tr : List Int) (w : World) (hx : xs.length ≤ 1000000000) (hy : tr.length ≤ 1000000000) (hc : CIn w p xs) (hi : IIn w q tr) :
    Calls Try.prog 54 #[.agg #[.slice p xs.length c1, .slice q tr.length c2]] w (HeapOut xs tr w) := by
  have HC : Hid (CIn w p xs) := hc
  have HI : Hid (IIn w q tr) := hi
  clear hc hi
  by_cases hl : xs.length ≤ 20000
  · have hl' : ¬ (20000 : Int) < xs.length := by omega
    by_cases ht : tr.length ≤ 20000
    · have ht' : ¬ (20000 : Int) < tr.length := by omega
      have HNH := newHeap_any (w.alloc (.cells #[.slice p xs.length c1, .slice q tr.length c2] 36))
      simp only [World.size_alloc] at HNH
      go_enter Try.func54, Try.ntmps54
      go_wp2_with fail
      refine HNH.mono ?_
      rintro e w1 ⟨rfl, e1⟩
      have k0 : w1.heap[w.heap.size]? = some (.cells #[.slice p xs.length c1, .slice q tr.length c2] 36) := by
        rw [e1, Below.heap_alloc _ _ _ (by simp; omega), Below.heap_alloc _ _ _ (by simp)]; exact heap_alloc_new _ _
      have k2 : w1.heap[w.heap.size + 1 + 1]? = some (.cells #[.slice none 0 0, .slice none 0 0, .map (some (w.heap.size + 1)), .int .i64 0] 86) := by
        have := heap_alloc_new ((w.alloc (.cells #[.slice p xs.length c1, .slice q tr.length c2] 36)).alloc (.map #[] 0)) (.cells #[.slice none 0 0, .slice none 0 0, .map (some (w.heap.size + 1)), .int .i64 0] 86)
        rw [e1]
        simpa using this
      have s0 : w1.cell? ⟨w.heap.size, 0, none⟩ = some (.slice p xs.length c1) := by simp [World.cell?, k0]
      have s1 : w1.cell? ⟨w.heap.size, 1, none⟩ = some (.slice q tr.length c2) := by simp [World.cell?, k0]
      have HBL : Hid (Bld w1 (w.heap.size + 1 + 1) none 0 0 []) := ⟨by simp [World.cell?, k2], frozen_of_row _ _ _ _ _ k2, by simp [World.cell?, k2], frozen_of_row _ _ _ _ _ k2, World.ownsRow_nil _ _ _ _⟩
      have HB1 : Hid (Below w.heap.size w w1) := by
        rw [e1]
        exact (((Below.refl _ _).alloc (Nat.le_refl _) _).alloc (by simp) _).alloc (by simp; omega) _
      have HST : Hid (∀ W, Below (w.heap.size + 1 + 1) w1 W → W.cell? ⟨w.heap.size, 0, none⟩ = some (.slice p xs.length c1) ∧ W.cell? ⟨w.heap.size, 1, none⟩ = some (.slice q tr.length c2)) := fun W hW => ⟨(World.cell?_of_block (a := ⟨w.heap.size, 0, none⟩) (hW.block w.heap.size (by omega))).trans s0, (World.cell?_of_block (a := ⟨w.heap.size, 1, none⟩) (hW.block w.heap.size (by omega))).trans s1⟩
      have hmk : ∀ W, Below (w.heap.size + 1 + 1) w1 W → Below w.heap.size w W := fun W hW => HB1.out.trans (hW.mono (by omega))
      have HMK : Hid _ := hmk
      obtain ⟨i0, hi0, hz0, hz1, hz2⟩ := info_parts infoWord
      clear HNH e1 k0 k2 s1 hmk
      go_wp2
      go_loopw [23] (fun i wr => ∃ (k c : Nat) (pw : Option Addr), k ≤ xs.length ∧ i = .int .i64 k ∧ Hid (Below (w.heap.size + 1 + 1) w1 wr) ∧ Hid (Bld wr (w.heap.size + 1 + 1) pw k c ((xs.take k).map wv)) ∧ Hid (∀ a, a < k → okW (xs.getD a Cel.none).1 (xs.getD a Cel.none).2.1 (xs.getD a Cel.none).2.2.length = true)) (fun i _ => xs.length - (intOf i).toNat)
      case atStart => exact ⟨0, 0, none, Nat.zero_le _, rfl, Below.refl _ _, by simpa [Hid] using HBL.out, fun a h => absurd h (Nat.not_lt_zero _)⟩
      case round =>
        obtain ⟨k, c, pw, hk, rfl, HB, HBd, HO⟩ := hrel
        by_cases hlt : k < xs.length
        · obtain ⟨b, o, rfl, hcs⟩ := HC.out (by omega)
          obtain ⟨qx, qc, h0, h1, h2, h3⟩ := (hcs k hlt).below (HMK.out _ HB.out)
          have HN : Hid _ := take_wv xs k hlt
          have HWO : Hid (∀ W, Below wr.heap.size wr W → Calls Try.prog 80 #[.agg #[.int .i64 (xs.getD k Cel.none).1, .int .i64 (xs.getD k Cel.none).2.1, .slice qx (xs.getD k Cel.none).2.2.length qc]] W fun e w' => (∃ v, e = .returned (.tuple #[v, .bool (okW (xs.getD k Cel.none).1 (xs.getD k Cel.none).2.1 (xs.getD k Cel.none).2.2.length)]) ∧ (okW (xs.getD k Cel.none).1 (xs.getD k Cel.none).2.1 (xs.getD k Cel.none).2.2.length = true → v = wv (xs.getD k Cel.none))) ∧ Below W.heap.size W w') := fun W hW => wordOf_any _ _ qx _ qc _ W rfl (h3.below hW)
          have HOK : Hid (okW (xs.getD k Cel.none).1 (xs.getD k Cel.none).2.1 (xs.getD k Cel.none).2.2.length = okW (xs.getD k Cel.none).1 (xs.getD k Cel.none).2.1 (xs.getD k Cel.none).2.2.length) := rfl
          have HON : Hid _ := one_wordV (xs.getD k Cel.none)
          obtain ⟨ty, y, hty⟩ := wv_iface (xs.getD k Cel.none)
          rw [hty] at HWO HN HON
          clear hty
          generalize er : okW (xs.getD k Cel.none).1 (xs.getD k Cel.none).2.1 (xs.getD k Cel.none).2.2.length = r at HWO
          have HR : Hid _ := er
          generalize (xs.getD k Cel.none).1 = d0 at h0 HWO
          generalize (xs.getD k Cel.none).2.1 = d1 at h1 HWO
          generalize (xs.getD k Cel.none).2.2.length = d2 at h2 HWO
          have hsz : Hid (w.heap.size + 1 + 1 < wr.heap.size) := HBd.out.lt
          have HBx : Hid (Below wr.heap.size wr (wr.alloc (.cells #[.int .i64 d0, .int .i64 d1, .slice qx d2 qc] 31))) := (Below.refl _ _).alloc (Nat.le_refl _) _
          clear er HOK hcs h3
          cases r
          · go_wp2_with fail
            refine (HWO.out _ HBx.out).mono ?_
            rintro e w2 ⟨⟨v, rfl, _⟩, hb2⟩
            have HB2 : Hid (Below w.heap.size w w2) := Below.on (Below.on (HMK.out _ HB.out) HBx.out) hb2
            clear hb2
            go_wp2
            have hbad : storeB xs tr = false := store_bad hlt HR.out
            exact bodyPost_ret (v := .tuple #[.pointer none, .bool false]) (by simp [results, Try.results54, go_sem]) rfl ⟨_, by rw [hbad], HB2.out, fun h => by rw [hbad] at h; cases h⟩
          · go_wp2_with fail
            refine (HWO.out _ HBx.out).mono ?_
            rintro e w2 ⟨⟨v, rfl, hv⟩, hb2⟩
            have hv := hv (by trivial)
            subst hv
            have HBr : Hid (Below wr.heap.size wr w2) := Below.on HBx.out hb2
            have HB2 : Hid (Below (w.heap.size + 1 + 1) w1 w2) := HB.out.trans (HBr.out.mono (by have := hsz.out; omega))
            have HBd2 : Hid (Bld w2 (w.heap.size + 1 + 1) pw k c ((xs.take k).map wv)) := HBd.out.below HBr.out
            obtain ⟨b0, b1, b2, b3, b4⟩ := HBd2.out
            have HOW : Hid (w2.ownsRow (w.heap.size + 1 + 1 + 1) 70 1 (.slice pw k c) k ((xs.take k).map wv)) := b4
            have hlt2 : w.heap.size + 1 + 1 < w2.heap.size := HBd2.out.lt
            generalize (xs.take k).map wv = vs at HOW HBd2 HN
            have HON' : Hid (∀ u ∈ [Value.iface ty y], u.oneCell' = true) := HON.out
            clear hb2 b2 b3 b4 HWO HON HBd h0 h1 h2
            go_wp2_with (at_builtin; go_loud (refine wpList_append_lies _ rfl _ _ 82 rfl (w.heap.size + 1 + 1 + 1) 70 i0 .nilIface 1 16 Try.underlying82 hi0 hz0 hz1 hz2 rfl (by decide) (.slice pw k c) k vs rfl (HOW.out.alloc _) ⟨w2.heap.size, 0, none⟩ 1 1 [.iface ty y] rfl rfl (cell_one_new w2 (.iface ty y) 70) HON'.out (by decide) (by unfold maxLen; omega) (by omega) (by simp; omega) _ rfl ?_; intro g cap w3 hown3 hgrow3 hat3 hlt3; have hBa := HBd2.out.below ((Below.refl _ _).alloc (Nat.le_refl _) (.cells #[.iface ty y] 70)); have hP : Hid _ := hBa.put hown3 hgrow3; have hC : w3.cell? ⟨w.heap.size + 1 + 1, 0, none⟩ = some (.slice pw k c) := (World.cell?_of_block (a := ⟨w.heap.size + 1 + 1, 0, none⟩) (hgrow3.block (w.heap.size + 1 + 1) hBa.lt (fun e => by have := (hBa.2.2.2.2.lt _ e.symm).1; omega))).trans hBa.1; have hFz : w3.frozen? ⟨w.heap.size + 1 + 1, 0, none⟩ = false := (World.frozen?_of_block (a := ⟨w.heap.size + 1 + 1, 0, none⟩) (hgrow3.block (w.heap.size + 1 + 1) hBa.lt (fun e => by have := (hBa.2.2.2.2.lt _ e.symm).1; omega))).trans hBa.2.1; have HB3 : Hid (Below (w.heap.size + 1 + 1) w1 w3) := (HB2.out.alloc (by omega) _).grown hgrow3 (by simp; omega) (fun j e => by have := (hBa.2.2.2.2.lt _ e).1; omega); clear hgrow3 hown3 hBa hat3 hlt3))
            go_roundw
            case rel => exact ⟨k + 1, cap, some ⟨g, 0, none⟩, by omega, by go_num, HB3.out.setCell (p := ⟨w.heap.size + 1 + 1, 0, none⟩) (Nat.le_refl _) _, by show Bld _ _ _ _ _ _; rw [HN.out]; exact hP.out, fun a ha => by
              rcases Nat.lt_or_eq_of_le (Nat.lt_succ_iff.1 ha) with ha | rfl
              · exact HO.out a ha
              · exact HR.out⟩
            case measure => simp [intOf]; omega
        · obtain rfl : k = xs.length := by omega
          have HBd' : Hid (Bld wr (w.heap.size + 1 + 1) pw xs.length c (xs.map wv)) := by have := HBd.out; rw [List.take_length] at this; exact this
          obtain ⟨t0, t1⟩ := HST.out _ HB.out
          have HPU : Hid (∀ n, Calls Try.prog 81 #[.pointer (some ⟨w.heap.size + 1 + 1, 1, none⟩), .slice q tr.length c2] (wr.drewN n) fun e w' => e = .returned (.tuple #[]) ∧ ∃ pt ct w1, w' = w1.setCell ⟨w.heap.size + 1 + 1, 1, none⟩ (.slice pt tr.length ct) ∧ Below (wr.drewN n).heap.size (wr.drewN n) w1 ∧ OwnI w1 (wr.drewN n).heap.size 3 pt tr.length ct tr) := fun n => push_any (w.heap.size + 1 + 1) 1 q c2 tr (wr.drewN n) ht (HI.out.below (below_drewN (HMK.out _ HB.out) n)) HBd'.out.2.2.1 HBd'.out.2.2.2.1
          have HVA : Hid _ := isValid_any (w.heap.size + 1 + 1) xs tr
          have HES : Hid _ := store_heap (xs := xs) (tr := tr) hl ht HO.out
          clear HBd
          go_wp2
          go_region_with (go_at_call 81; refine (HPU.out 1).mono ?_; rintro e w2 ⟨rfl, pt, ct, w2', rfl, hb2, ho2⟩)
          all_goals
            have HHA : Hid _ := heap_pushed (HBd'.out.below (below_drewN (Below.refl _ _) 1)) hb2 ho2
            have HB3 : Hid (Below w.heap.size w (w2'.setCell ⟨w.heap.size + 1 + 1, 1, none⟩ (.slice pt tr.length ct))) := (Below.on (below_drewN (HMK.out _ HB.out) 1) hb2).setCell (p := ⟨w.heap.size + 1 + 1, 1, none⟩) (by simp; omega) _
            clear hb2 ho2
            go_wp2_with fail
            refine (HVA.out _ hl ht HO.out HHA.out).mono ?_
            rintro e w4 ⟨rfl, hb4⟩
            have HB4 : Hid _ := Below.on HB3.out hb4
            have HH4 : Hid (HeapAt w4 (w.heap.size + 1 + 1) xs tr) := HeapAt.below HHA.out hb4
            clear hb4
            go_wp2
            exact bodyPost_ret (v := .tuple #[.pointer (some ⟨w.heap.size + 1 + 1, 0, none⟩), .bool (heapB xs tr)]) (by simp [results, Try.results54, go_sem]) rfl ⟨_, by rw [HES.out], HB4.out, fun _ => ⟨_, rfl, HH4.out⟩⟩
    · have ht' : (20000 : Int) < tr.length := by omega
      have hbad : storeB xs tr = false := by unfold storeB; rw [decide_eq_false ht]; simp
      have HBad : Hid _ := hbad
      clear hbad ht
      go_enter Try.func54, Try.ntmps54
      go_wp2
      exact bodyPost_ret (v := .tuple #[.pointer none, .bool false]) (by simp [results, Try.results54, go_sem]) rfl ⟨_, by rw [HBad.out], (Below.refl _ _).alloc (Nat.le_refl _) _, fun h => by rw [HBad.out] at h; cases h⟩
  · have hl' : (20000 : Int) < xs.length := by omega
    have hbad : storeB xs tr = false := by unfold storeB; rw [decide_eq_false hl]; simp
    have HBad : Hid _ := hbad
    clear hbad hl
    go_enter Try.func54, Try.ntmps54
    go_wp2
    exact bodyPost_ret (v := .tuple #[.pointer none, .bool false]) (by simp [results, Try.results54, go_sem]) rfl ⟨_, by rw [HBad.out], (Below.refl _ _).alloc (Nat.le_refl _) _, fun h => by rw [HBad.out] at h; cases h⟩

set_option maxRecDepth 100000 in
theorem read_any (h : Nat) (k n : Int) (p : Option Addr) (m cap : Nat) (t : List Int) (xs : List Cel) (tr : List Int) (w : World) (hl : xs.length ≤ 20000) (hk : Knds xs) (hm : m = t.length) (hin : BIn w p t) (H : HeapAt w h xs tr) :
    Calls Try.prog 67 #[.pointer (some ⟨h, 0, none⟩), .agg #[.int .i64 k, .int .i64 n, .slice p m cap]] w fun e w' => (∃ v, e = .returned (.tuple #[v, .bool (wordB xs k n m)]) ∧ (wordB xs k n m = true → v = wv (k, n, t))) ∧ Below w.heap.size w w' := by
  have HB0 : Hid (Below w.heap.size w (w.alloc (.cells #[.int .i64 k, .int .i64 n, .slice p m cap] 31))) := (Below.refl _ _).alloc (Nat.le_refl _) _
  have HW := wordOf_any k n p m cap t _ hm (hin.below HB0.out)
  have HH : Hid (HeapAt w h xs tr) := H
  have HK : Hid (Knds xs) := hk
  have HE : Hid (wordB xs k n m = (okW k n m && leadB xs k n)) := rfl
  have HKN : Hid (okW k n m = true → (k = 0 ∨ k = 1 ∨ k = 2 ∨ k = 3 ∨ k = 4)) := ok_knd
  clear hin hm H hk
  cases ho : okW k n m
  · rw [ho] at HW HE
    clear ho HKN
    go_enter Try.func67, Try.ntmps67
    go_wp2_with fail
    refine HW.mono ?_
    rintro e w1 ⟨⟨v, rfl, _⟩, hb⟩
    have HB1 : Hid (Below w.heap.size w w1) := Below.on HB0.out hb
    clear hb HW
    go_wp2
    exact bodyPost_ret (v := .tuple #[v, .bool false]) (by simp [results, Try.results67, go_sem]) rfl ⟨⟨v, by rw [HE.out]; rfl, fun h => by rw [HE.out] at h; cases h⟩, HB1.out⟩
  · rw [ho] at HW HE HKN
    have HL : Hid (∀ W, Below w.heap.size w W → Calls Try.prog 91 #[.pointer (some ⟨h, 0, none⟩), wv (k, n, t)] W fun e w' => e = .returned (.bool (leadB xs k n)) ∧ Below W.heap.size W w') := fun W hW => leadsOn_any h (k, n, t) xs tr W hl HK.out (HKN.out rfl) (HH.out.below hW)
    generalize leadB xs k n = r at HL HE
    clear ho HKN
    go_enter Try.func67, Try.ntmps67
    go_wp2_with fail
    refine HW.mono ?_
    rintro e w1 ⟨⟨v, rfl, hv⟩, hb⟩
    have hv := hv (by trivial)
    subst hv
    have HB1 : Hid (Below w.heap.size w w1) := Below.on HB0.out hb
    clear hb HW
    go_wp2_with fail
    refine (HL.out w1 HB1.out).mono ?_
    rintro e w2 ⟨rfl, hb⟩
    have HB2 : Hid (Below w.heap.size w w2) := Below.on HB1.out hb
    clear hb HL
    go_wp2
    exact bodyPost_ret (v := .tuple #[wv (k, n, t), .bool r]) (by simp [results, Try.results67, go_sem]) rfl ⟨⟨_, by rw [HE.out]; rfl, fun h => rfl⟩, HB2.out⟩

/-- Is the store valid, and the cell a word of it? -/
noncomputable def vsB (xs : List Cel) (tr : List Int) (k n : Int) (m : Nat) : Bool := storeB xs tr && wordB xs k n m
theorem storeB_parts {xs : List Cel} {tr : List Int} (h : storeB xs tr = true) : xs.length ≤ 20000 ∧ tr.length ≤ 20000 ∧ Shp xs ∧ tr.all (isWB xs) = true ∧ Acyc xs := by
  unfold storeB at h
  simp only [Bool.and_eq_true, decide_eq_true_eq] at h
  obtain ⟨⟨⟨⟨h1, h2⟩, h3, h4⟩, h5⟩, h6⟩ := h
  refine ⟨h1, h2, shp_of h1 h3 h4, h5, ?_⟩
  unfold acycB at h6
  exact @of_decide_eq_true _ (Classical.propDecidable _) h6
/-- What heapWith answers. -/
def WithOut (xs : List Cel) (tr : List Int) (k n : Int) (t : List Int) (w : World) (e : Ending) (w' : World) : Prop :=
  ∃ v u, e = .returned (.tuple #[v, u, .bool (vsB xs tr k n t.length)]) ∧ Below w.heap.size w w' ∧ (vsB xs tr k n t.length = true → ∃ h, v = .pointer (some ⟨h, 0, none⟩) ∧ u = wv (k, n, t) ∧ HeapAt w' h xs tr)

set_option maxRecDepth 100000 in
theorem heapWith_any (p q pt : Option Addr) (c1 c2 cap : Nat) (k n : Int) (t : List Int) (xs : List Cel) (tr : List Int) (w : World) (hx : xs.length ≤ 1000000000) (hy : tr.length ≤ 1000000000) (hc : CIn w p xs) (hi : IIn w q tr) (hin : BIn w pt t) :
    Calls Try.prog 44 #[.agg #[.slice p xs.length c1, .slice q tr.length c2], .agg #[.int .i64 k, .int .i64 n, .slice pt t.length cap]] w (WithOut xs tr k n t w) := by
  have HB0 : Hid (Below w.heap.size w ((w.alloc (.cells #[.slice p xs.length c1, .slice q tr.length c2] 36)).alloc (.cells #[.int .i64 k, .int .i64 n, .slice pt t.length cap] 31))) := ((Below.refl _ _).alloc (Nat.le_refl _) _).alloc (by simp) _
  have HO := heapOf_any p q c1 c2 xs tr _ hx hy (hc.below HB0.out) (hi.below HB0.out)
  have HI : Hid (BIn w pt t) := hin
  have HE : Hid (vsB xs tr k n t.length = (storeB xs tr && wordB xs k n t.length)) := rfl
  have HM : Hid (∃ m, m = t.length) := ⟨_, rfl⟩
  have k1 : ((w.alloc (.cells #[.slice p xs.length c1, .slice q tr.length c2] 36)).alloc (.cells #[.int .i64 k, .int .i64 n, .slice pt t.length cap] 31)).heap[w.heap.size + 1]? = some (.cells #[.int .i64 k, .int .i64 n, .slice pt t.length cap] 31) := by
    have := heap_alloc_new (w.alloc (.cells #[.slice p xs.length c1, .slice q tr.length c2] 36)) (.cells #[.int .i64 k, .int .i64 n, .slice pt t.length cap] 31)
    simpa using this
  have HK1 : Hid _ := k1
  clear hc hi hin k1
  go_enter Try.func44, Try.ntmps44
  go_wp2_with fail
  refine HO.mono ?_
  rintro e w1 ⟨v, rfl, hb, hh⟩
  have bb : Box3 w1 (w.heap.size + 1) (.int .i64 k) (.int .i64 n) (.slice pt t.length cap) := Box3.of_block (t := 31) ((hb.block _ (by simp)).trans HK1.out)
  have HB1 : Hid (Below w.heap.size w w1) := Below.on HB0.out hb
  have HH : Hid (storeB xs tr = true → ∃ h, v = .pointer (some ⟨h, 0, none⟩) ∧ HeapAt w1 h xs tr) := hh
  clear hb hh HO HK1
  cases hs : storeB xs tr
  · rw [hs] at HE
    clear hs HH bb
    go_wp2
    exact bodyPost_ret (v := .tuple #[.pointer none, .nilIface, .bool false]) (by simp [results, Try.results44, go_sem]) rfl ⟨_, _, by rw [HE.out]; rfl, HB1.out, fun h => by rw [HE.out] at h; cases h⟩
  · rw [hs] at HE
    obtain ⟨h, rfl, hat⟩ := HH.out hs
    obtain ⟨p1, p2, p3, _, _⟩ := storeB_parts hs
    have HR := read_any h k n pt t.length cap t xs tr w1 p1 p3.knds rfl (HI.out.below HB1.out) hat
    have HAT : Hid (HeapAt w1 h xs tr) := hat
    obtain ⟨b0, b1, b2, _⟩ := bb
    clear hs HH hat p3 HI
    generalize wordB xs k n t.length = r at HR HE
    go_wp2_with fail
    refine HR.mono ?_
    rintro e w2 ⟨⟨u, rfl, hu⟩, hb⟩
    have HU : Hid (r = true → u = wv (k, n, t)) := hu
    have HB2 : Hid (Below w.heap.size w w2) := Below.on HB1.out hb
    have HA2 : Hid (HeapAt w2 h xs tr) := HeapAt.below HAT.out hb
    clear hb hu HR
    go_wp2
    exact bodyPost_ret (v := .tuple #[.pointer (some ⟨h, 0, none⟩), u, .bool r]) (by simp [results, Try.results44, go_sem]) rfl ⟨_, _, by rw [HE.out]; rfl, HB2.out, fun hr => ⟨h, rfl, HU.out (by rw [HE.out] at hr; exact hr), HA2.out⟩⟩

end Go.Proofs.Ytcdcdpmjibcolaa
