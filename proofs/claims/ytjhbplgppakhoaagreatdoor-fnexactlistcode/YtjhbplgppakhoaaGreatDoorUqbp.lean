/- Texts of LcB, LcC, LcD, LcE. Own work of the verifier. -/
import Derived.Test.YtjhbplgppakhoaaGreatDoorUqbk
import Derived.Test.YtjhbplgppakhoaaGreatDoorUqak
import Derived.Test.YtjhbplgppakhoaaGreatDoorUqap
namespace Go.Proofs.YtjhbplgppakhoaaGreatDoor
open Go Go.RowKit
set_option linter.unusedVariables false
theorem szR_two {L a b : Nat} (h : a ≤ L) : szR L (a + b) = szR (L - a) b := by
  unfold szR
  by_cases h2 : b ≤ L - a
  · rw [if_pos h2, if_pos (by omega)]; omega
  · rw [if_neg h2, if_neg (by omega)]
theorem szR_no {L a b : Nat} (h : ¬ a ≤ L) : szR L (a + b) = -1 := by unfold szR; rw [if_neg (by omega)]
theorem szR_is {L a : Nat} (h : a ≤ L) : szR L a = ((L - a : Nat) : Int) := by unfold szR; rw [if_pos h]; omega
theorem szR_not {L a : Nat} (h : ¬ a ≤ L) : szR L a = -1 := by unfold szR; rw [if_neg h]
set_option maxRecDepth 100000 in
theorem szIns_any (x : Iv) (q : Option Addr) (m qc : Nat) (s : Option Addr) (n sc : Nat) (u : Option Addr) (l uc : Nat) (L : Nat) (w : World) (hm : m = x.c.2.2.length) (hn : n = x.K.length) (hl : l = x.L.length) (hL : L ≤ 1048576) (hm9 : m ≤ 9223372036854775807) (hn9 : n ≤ 9223372036854775807) (ht : ∀ j, j < x.K.length → (x.K.getD j Cel.none).2.2.length ≤ 9223372036854775807) (hl9 : l ≤ 9223372036854775807) (hs : CIn w s x.K) (op r a k c1 : Int) :
    Calls Tryz.prog 75 #[.agg #[.int .i64 op, .int .i64 r, .int .i64 a, .int .i64 k, .int .i64 c1, .slice q m qc, .slice s n sc, .slice u l uc], .int .i64 L] w fun e w' => e = .returned (.int .i64 (szR L (szI x))) ∧ Below w.heap.size w w' := by
  obtain ⟨bx, ebx⟩ : ∃ bx : Obj, bx = .cells #[.int .i64 op, .int .i64 r, .int .i64 a, .int .i64 k, .int .i64 c1, .slice q m qc, .slice s n sc, .slice u l uc] 137 := ⟨_, rfl⟩
  have HAL : Hid (Below w.heap.size w (w.alloc bx)) := (Below.refl _ _).alloc (Nat.le_refl _) _
  have HBX : Hid (∀ W, Below (w.alloc bx).heap.size (w.alloc bx) W → (W.cell? ⟨w.heap.size, 6, none⟩ = some (.slice s n sc) ∧ W.cell? ⟨w.heap.size, 7, none⟩ = some (.slice u l uc)) ∧ Below w.heap.size w W) := fun W hW => by
    have hk : W.heap[w.heap.size]? = some bx := (hW.block w.heap.size (by simp)).trans (heap_alloc_new w _)
    rw [ebx] at hk
    have hB := BoxL.of_block hk
    exact ⟨⟨hB.2.1 6 (by simp), hB.2.1 7 (by simp)⟩, Below.on HAL.out hW⟩
  have HEB : Hid (bx = .cells #[.int .i64 op, .int .i64 r, .int .i64 a, .int .i64 k, .int .i64 c1, .slice q m qc, .slice s n sc, .slice u l uc] 137) := ebx
  have H1 := szCell_any k c1 q m qc L (w.alloc bx) hL hm9
  have e0 : szI x = m + (n + tl x.K + l) := by unfold szI; rw [hm, hn, hl]; omega
  by_cases h1 : m ≤ L
  · rw [szR_is h1] at H1
    rw [e0, szR_two h1]
    obtain ⟨L1, eL1⟩ : ∃ y, y = L - m := ⟨_, rfl⟩
    rw [← eL1] at H1 ⊢
    have hL1 : L1 ≤ 1048576 := by omega
    have H2 : Hid (∀ W, Below w.heap.size w W → Calls Tryz.prog 6 #[.slice s n sc, .int .i64 L1] W fun e w' => e = .returned (.int .i64 (szR L1 (n + tl x.K))) ∧ Below W.heap.size W w') := fun W hW => by rw [hn]; exact szCellS_any s sc x.K L1 W hL1 (by omega) ht (hs.below hW)
    by_cases h2 : n + tl x.K ≤ L1
    · rw [szR_is h2] at H2
      rw [szR_two h2]
      obtain ⟨L2, eL2⟩ : ∃ y, y = L1 - (n + tl x.K) := ⟨_, rfl⟩
      rw [← eL2] at H2 ⊢
      have hL2 : L2 ≤ 1048576 := by omega
      have H3 : Hid (∀ W, Calls Tryz.prog 115 #[.slice u l uc, .int .i64 L2] W fun e w' => e = .returned (.int .i64 (szR L2 l)) ∧ w' = W) := fun W => szIntS_any u l uc L2 W hL2 hl9
      have hl2 : ¬ ((L2 : Int) < 0) := by omega
      have hl1 : ¬ ((L1 : Int) < 0) := by omega
      by_cases h3 : l ≤ L2
      · rw [szR_is h3] at H3 ⊢
        obtain ⟨L3, eL3⟩ : ∃ y, y = L2 - l := ⟨_, rfl⟩
        rw [← eL3] at H3 ⊢
        have hl3 : ¬ ((L3 : Int) < 0) := by omega
        clear hm hn hl ht hs e0 eL1 eL2 eL3 h1 h2 h3 ebx
        go_enter Tryz.func75, Tryz.ntmps75
        go_wp2_with fail
        rw [← HEB.out]
        refine H1.mono ?_
        rintro e w1 ⟨rfl, hb1⟩
        have HA1 : Hid (Below (w.alloc bx).heap.size (w.alloc bx) w1) := hb1
        obtain ⟨⟨c6, c7⟩, hB1⟩ := HBX.out w1 hb1
        have H2' := H2.out w1 hB1
        clear hb1 hB1 H1
        go_wp2_with fail
        refine H2'.mono ?_
        rintro e w2 ⟨rfl, hb2⟩
        have HA2 : Hid (Below (w.alloc bx).heap.size (w.alloc bx) w2) := Below.on HA1.out hb2
        obtain ⟨⟨d6, d7⟩, hB2⟩ := HBX.out w2 HA2.out
        have HB2 : Hid (Below w.heap.size w w2) := hB2
        clear hb2 hB2 H2'
        go_wp2_with fail
        refine (H3.out w2).mono ?_
        rintro e w3 ⟨rfl, hw3⟩
        rw [hw3]
        go_wp2_with fail
        go_ret
        exact ⟨rfl, HB2.out⟩
      · rw [szR_not h3] at H3 ⊢
        clear hm hn hl ht hs e0 eL1 eL2 h1 h2 h3 ebx
        go_enter Tryz.func75, Tryz.ntmps75
        go_wp2_with fail
        rw [← HEB.out]
        refine H1.mono ?_
        rintro e w1 ⟨rfl, hb1⟩
        have HA1 : Hid (Below (w.alloc bx).heap.size (w.alloc bx) w1) := hb1
        obtain ⟨⟨c6, c7⟩, hB1⟩ := HBX.out w1 hb1
        have H2' := H2.out w1 hB1
        clear hb1 hB1 H1
        go_wp2_with fail
        refine H2'.mono ?_
        rintro e w2 ⟨rfl, hb2⟩
        have HA2 : Hid (Below (w.alloc bx).heap.size (w.alloc bx) w2) := Below.on HA1.out hb2
        obtain ⟨⟨d6, d7⟩, hB2⟩ := HBX.out w2 HA2.out
        have HB2 : Hid (Below w.heap.size w w2) := hB2
        clear hb2 hB2 H2'
        go_wp2_with fail
        refine (H3.out w2).mono ?_
        rintro e w3 ⟨rfl, hw3⟩
        rw [hw3]
        go_wp2_with fail
        go_ret
        exact ⟨rfl, HB2.out⟩
    · rw [szR_not h2] at H2
      rw [szR_no h2]
      have hl1 : ¬ ((L1 : Int) < 0) := by omega
      clear hm hn hl ht hs e0 eL1 h1 h2 ebx
      go_enter Tryz.func75, Tryz.ntmps75
      go_wp2_with fail
      rw [← HEB.out]
      refine H1.mono ?_
      rintro e w1 ⟨rfl, hb1⟩
      have HA1 : Hid (Below (w.alloc bx).heap.size (w.alloc bx) w1) := hb1
      obtain ⟨⟨c6, c7⟩, hB1⟩ := HBX.out w1 hb1
      have H2' := H2.out w1 hB1
      clear hb1 hB1 H1
      go_wp2_with fail
      refine H2'.mono ?_
      rintro e w2 ⟨rfl, hb2⟩
      have HA2 : Hid (Below (w.alloc bx).heap.size (w.alloc bx) w2) := Below.on HA1.out hb2
      have HB2 : Hid (Below w.heap.size w w2) := (HBX.out w2 HA2.out).2
      clear hb2 H2'
      go_wp2_with fail
      go_ret
      exact ⟨rfl, HB2.out⟩
  · rw [szR_not h1] at H1
    rw [e0, szR_no h1]
    clear hm hn hl ht hs e0 h1 ebx
    go_enter Tryz.func75, Tryz.ntmps75
    go_wp2_with fail
    rw [← HEB.out]
    refine H1.mono ?_
    rintro e w1 ⟨rfl, hb1⟩
    have HB1 : Hid (Below w.heap.size w w1) := (HBX.out w1 hb1).2
    clear hb1 H1
    go_wp2_with fail
    go_ret
    exact ⟨rfl, HB1.out⟩
set_option maxRecDepth 100000 in
theorem szProc_any (x : Pv) (q : Option Addr) (m qc : Nat) (u : Option Addr) (l uc : Nat) (L : Nat) (w : World) (hm : m = x.nm.length) (hl : l = x.cl.length) (hL : L ≤ 1048576) (hm9 : m ≤ 9223372036854775807) (hl9 : l ≤ 9223372036854775807) (ar : Int) (dy : Bool) (pl : Int) :
    Calls Tryz.prog 76 #[.agg #[.slice q m qc, .int .i64 ar, .bool dy, .int .i64 pl, .slice u l uc], .int .i64 L] w fun e w' => e = .returned (.int .i64 (szR L (szV x))) ∧ Below w.heap.size w w' := by
  have HB : Hid (∀ o, Below w.heap.size w (w.alloc o)) := fun o => (Below.refl _ _).alloc (Nat.le_refl _) _
  have H1 := fun W => szByteS_any q m qc L W hL hm9
  have e0 : szV x = m + l := by unfold szV; rw [hm, hl]
  by_cases h1 : m ≤ L
  · rw [szR_is h1] at H1
    rw [e0, szR_two h1]
    obtain ⟨L1, eL1⟩ : ∃ y, y = L - m := ⟨_, rfl⟩
    rw [← eL1] at H1 ⊢
    have hL1 : L1 ≤ 1048576 := by omega
    have hl1 : ¬ ((L1 : Int) < 0) := by omega
    have H3 : Hid (∀ W, Calls Tryz.prog 115 #[.slice u l uc, .int .i64 L1] W fun e w' => e = .returned (.int .i64 (szR L1 l)) ∧ w' = W) := fun W => szIntS_any u l uc L1 W hL1 hl9
    by_cases h3 : l ≤ L1
    · rw [szR_is h3] at H3 ⊢
      obtain ⟨L3, eL3⟩ : ∃ y, y = L1 - l := ⟨_, rfl⟩
      rw [← eL3] at H3 ⊢
      have hl3 : ¬ ((L3 : Int) < 0) := by omega
      clear hm hl e0 eL1 eL3 h1 h3
      go_enter Tryz.func76, Tryz.ntmps76
      go_wp2_with fail
      refine (H1 _).mono ?_
      rintro e w1 ⟨rfl, hw1⟩
      subst hw1
      go_wp2_with fail
      refine (H3.out _).mono ?_
      rintro e w3 ⟨rfl, hw3⟩
      rw [hw3]
      go_wp2_with fail
      go_ret
      exact ⟨rfl, HB.out _⟩
    · rw [szR_not h3] at H3 ⊢
      clear hm hl e0 eL1 h1 h3
      go_enter Tryz.func76, Tryz.ntmps76
      go_wp2_with fail
      refine (H1 _).mono ?_
      rintro e w1 ⟨rfl, hw1⟩
      subst hw1
      go_wp2_with fail
      refine (H3.out _).mono ?_
      rintro e w3 ⟨rfl, hw3⟩
      rw [hw3]
      go_wp2_with fail
      go_ret
      exact ⟨rfl, HB.out _⟩
  · rw [szR_not h1] at H1
    rw [e0, szR_no h1]
    clear hm hl e0 h1
    go_enter Tryz.func76, Tryz.ntmps76
    go_wp2_with fail
    refine (H1 _).mono ?_
    rintro e w1 ⟨rfl, hw1⟩
    subst hw1
    go_wp2_with fail
    go_ret
    exact ⟨rfl, HB.out _⟩
end Go.Proofs.YtjhbplgppakhoaaGreatDoor

namespace Go.Proofs.YtjhbplgppakhoaaGreatDoor
open Go Go.RowKit
set_option linter.unusedVariables false
set_option linter.unusedSimpArgs false
set_option maxRecDepth 100000 in
set_option maxHeartbeats 1000000 in
theorem szInsS_any (p : Option Addr) (cap : Nat) (xs : List Iv) (L : Nat) (w : World) (hL : L ≤ 1048576) (hin : IvArg w p xs) :
    Calls Tryz.prog 44 #[.slice p xs.length cap, .int .i64 L] w fun e w' => e = .returned (.int .i64 (szR L (xs.length + szIs xs))) ∧ Below w.heap.size w w' := by
  have HI : Hid (IvArg w p xs) := hin
  have hn := hin.len
  clear hin
  by_cases h : xs.length ≤ L
  · have h0 : ¬ ((L : Int) - xs.length < 0) := by omega
    go_enter Tryz.func44, Tryz.ntmps44
    go_wp2_with fail
    have HL : Hid (xs.length ≤ L) := h
    clear h h0
    go_loopw [1, 5] (fun l i wr => ∃ k : Nat, k ≤ xs.length ∧ i = .int .i64 k ∧ Hid (xs.length + szIs (xs.take k) ≤ L) ∧ l = .int .i64 ((L : Int) - (xs.length + szIs (xs.take k) : Nat)) ∧ Hid (Below w.heap.size w wr)) (fun _ i _ => xs.length - (intOf i).toNat)
    case atStart => exact ⟨0, Nat.zero_le _, rfl, by simpa [szIs, Hid] using HL.out, by simp [szIs], Below.refl _ _⟩
    case round =>
      obtain ⟨k, hk, rfl, HT, rfl, HB⟩ := hrel
      by_cases hlt : k < xs.length
      · obtain ⟨b, o, rfl, hcs⟩ := (HI.out.below HB.out).lies (by omega)
        obtain ⟨q, qc, s, sc, u, uc, h0, h1, h2, h3⟩ := hcs k hlt
        have hit := HI.out.item k hlt
        have htk : Hid _ := szIs_take xs k hlt
        have htl : Hid _ := szIs_take_le xs (k + 1)
        obtain ⟨L', eL⟩ : ∃ x, x = L - (xs.length + szIs (xs.take k)) := ⟨_, rfl⟩
        have eL' : ((L : Int) - (xs.length + szIs (xs.take k) : Nat)) = (L' : Int) := by have := HT.out; omega
        have hL' : L' ≤ 1048576 := by omega
        have d0 : wr.cell? ⟨b, o + k * 8, none⟩ = some (.int .i64 (xs.getD k Iv.zero).op) := h0 0 (by omega)
        have d1 : wr.cell? ⟨b, o + k * 8 + 1, none⟩ = some (.int .i64 (xs.getD k Iv.zero).r) := h0 1 (by omega)
        have d2 : wr.cell? ⟨b, o + k * 8 + 2, none⟩ = some (.int .i64 (xs.getD k Iv.zero).a) := h0 2 (by omega)
        have d3 : wr.cell? ⟨b, o + k * 8 + 3, none⟩ = some (.int .i64 (xs.getD k Iv.zero).c.1) := h0 3 (by omega)
        have d4 : wr.cell? ⟨b, o + k * 8 + 4, none⟩ = some (.int .i64 (xs.getD k Iv.zero).c.2.1) := h0 4 (by omega)
        have d5 : wr.cell? ⟨b, o + k * 8 + 5, none⟩ = some (.slice q (xs.getD k Iv.zero).c.2.2.length qc) := h0 5 (by omega)
        have d6 : wr.cell? ⟨b, o + k * 8 + 6, none⟩ = some (.slice s (xs.getD k Iv.zero).K.length sc) := h0 6 (by omega)
        have d7 : wr.cell? ⟨b, o + k * 8 + 7, none⟩ = some (.slice u (xs.getD k Iv.zero).L.length uc) := h0 7 (by omega)
        obtain ⟨x, ex⟩ : ∃ x, x = xs.getD k Iv.zero := ⟨_, rfl⟩
        rw [← ex] at d0 d1 d2 d3 d4 d5 d6 d7 hit htk h1 h2 h3
        obtain ⟨op, eop⟩ : ∃ y, y = x.op := ⟨_, rfl⟩
        obtain ⟨r, er⟩ : ∃ y, y = x.r := ⟨_, rfl⟩
        obtain ⟨a, ea⟩ : ∃ y, y = x.a := ⟨_, rfl⟩
        obtain ⟨kd, ekd⟩ : ∃ y, y = x.c.1 := ⟨_, rfl⟩
        obtain ⟨cn, ecn⟩ : ∃ y, y = x.c.2.1 := ⟨_, rfl⟩
        obtain ⟨m, em⟩ : ∃ y, y = x.c.2.2.length := ⟨_, rfl⟩
        obtain ⟨n, en⟩ : ∃ y, y = x.K.length := ⟨_, rfl⟩
        obtain ⟨l, el⟩ : ∃ y, y = x.L.length := ⟨_, rfl⟩
        have HS := szIns_any x q m qc s n sc u l uc L' wr em en el hL' (by rw [em]; exact hit.1) (by rw [en]; exact hit.2.2.1) hit.2.2.2.1 (by rw [el]; exact hit.2.2.2.2.2) h2 op r a kd cn
        rw [eL']
        have HE : Hid (L' = L - (xs.length + szIs (xs.take k))) := eL
        obtain ⟨sz, esz⟩ : ∃ y, y = szI x := ⟨_, rfl⟩
        rw [← esz] at HS htk
        rw [← eop] at d0
        rw [← er] at d1
        rw [← ea] at d2
        rw [← ekd] at d3
        rw [← ecn] at d4
        rw [← em] at d5
        rw [← en] at d6
        rw [← el] at d7
        clear eL eL' hcs h0 hit ex esz h1 h2 h3 eop er ea ekd ecn em en el
        by_cases hfit : sz ≤ L'
        · have e : szR L' sz = (L' : Int) - sz := by simp [szR, hfit]
          rw [e] at HS
          have h0' : ¬ ((L' : Int) - sz < 0) := by omega
          go_wp2_with fail
          refine HS.mono ?_
          rintro e w' ⟨rfl, hb1⟩
          go_wp2_with fail
          go_roundw
          case rel => exact ⟨k + 1, by omega, by go_num, by have := HT.out; have := htk.out; have := HE.out; show _ ≤ _; omega, by have := HT.out; have := htk.out; have := HE.out; congr 1; omega, Below.on HB.out hb1⟩
          case measure => simp [intOf]; omega
        · have e : szR L' sz = -1 := by simp [szR, hfit]
          rw [e] at HS
          go_wp2_with fail
          refine HS.mono ?_
          rintro e w' ⟨rfl, hb1⟩
          go_wp2_with fail
          go_ret
          refine ⟨ret_int ?_, Below.on HB.out hb1⟩
          have := HT.out; have := htk.out; have := HE.out; have := htl.out
          rw [szR, if_neg (by omega)]
      · obtain rfl : k = xs.length := by omega
        have hfull : xs.take xs.length = xs := List.take_length
        rw [hfull] at HT ⊢
        clear hfull
        go_wp2_with fail
        go_ret
        exact ⟨ret_int (by rw [szR, if_pos HT.out]), HB.out⟩
  · have e : szR L (xs.length + szIs xs) = -1 := by rw [szR, if_neg (by omega)]
    rw [e]
    have h0 : (L : Int) - xs.length < 0 := by omega
    go_enter Tryz.func44, Tryz.ntmps44
    go_wp2_with fail
    go_ret
    exact ⟨rfl, Below.refl _ _⟩
set_option maxRecDepth 100000 in
set_option maxHeartbeats 1000000 in
theorem szProcS_any (p : Option Addr) (cap : Nat) (xs : List Pv) (L : Nat) (w : World) (hL : L ≤ 1048576) (hin : PvArg w p xs) :
    Calls Tryz.prog 45 #[.slice p xs.length cap, .int .i64 L] w fun e w' => e = .returned (.int .i64 (szR L (xs.length + szVs xs))) ∧ Below w.heap.size w w' := by
  have HI : Hid (PvArg w p xs) := hin
  have hn := hin.len
  clear hin
  by_cases h : xs.length ≤ L
  · have h0 : ¬ ((L : Int) - xs.length < 0) := by omega
    go_enter Tryz.func45, Tryz.ntmps45
    go_wp2_with fail
    have HL : Hid (xs.length ≤ L) := h
    clear h h0
    go_loopw [1, 5] (fun l i wr => ∃ k : Nat, k ≤ xs.length ∧ i = .int .i64 k ∧ Hid (xs.length + szVs (xs.take k) ≤ L) ∧ l = .int .i64 ((L : Int) - (xs.length + szVs (xs.take k) : Nat)) ∧ Hid (Below w.heap.size w wr)) (fun _ i _ => xs.length - (intOf i).toNat)
    case atStart => exact ⟨0, Nat.zero_le _, rfl, by simpa [szVs, Hid] using HL.out, by simp [szVs], Below.refl _ _⟩
    case round =>
      obtain ⟨k, hk, rfl, HT, rfl, HB⟩ := hrel
      by_cases hlt : k < xs.length
      · obtain ⟨b, o, rfl, hcs⟩ := (HI.out.below HB.out).lies (by omega)
        obtain ⟨q, qc, u, uc, h0, h1, h2⟩ := hcs k hlt
        have hit := HI.out.item k hlt
        have htk : Hid _ := szVs_take xs k hlt
        have htl : Hid _ := szVs_take_le xs (k + 1)
        obtain ⟨L', eL⟩ : ∃ x, x = L - (xs.length + szVs (xs.take k)) := ⟨_, rfl⟩
        have eL' : ((L : Int) - (xs.length + szVs (xs.take k) : Nat)) = (L' : Int) := by have := HT.out; omega
        have hL' : L' ≤ 1048576 := by omega
        have d0 : wr.cell? ⟨b, o + k * 5, none⟩ = some (.slice q (xs.getD k Pv.zero).nm.length qc) := h0 0 (by omega)
        have d1 : wr.cell? ⟨b, o + k * 5 + 1, none⟩ = some (.int .i64 (xs.getD k Pv.zero).ar) := h0 1 (by omega)
        have d2 : wr.cell? ⟨b, o + k * 5 + 2, none⟩ = some (.bool (xs.getD k Pv.zero).dy) := h0 2 (by omega)
        have d3 : wr.cell? ⟨b, o + k * 5 + 3, none⟩ = some (.int .i64 (xs.getD k Pv.zero).pl) := h0 3 (by omega)
        have d4 : wr.cell? ⟨b, o + k * 5 + 4, none⟩ = some (.slice u (xs.getD k Pv.zero).cl.length uc) := h0 4 (by omega)
        obtain ⟨x, ex⟩ : ∃ x, x = xs.getD k Pv.zero := ⟨_, rfl⟩
        rw [← ex] at d0 d1 d2 d3 d4 hit htk h1 h2
        obtain ⟨m, em⟩ : ∃ y, y = x.nm.length := ⟨_, rfl⟩
        obtain ⟨ar, ear⟩ : ∃ y, y = x.ar := ⟨_, rfl⟩
        obtain ⟨dy, edy⟩ : ∃ y, y = x.dy := ⟨_, rfl⟩
        obtain ⟨pl, epl⟩ : ∃ y, y = x.pl := ⟨_, rfl⟩
        obtain ⟨l, el⟩ : ∃ y, y = x.cl.length := ⟨_, rfl⟩
        have HS := szProc_any x q m qc u l uc L' wr em el hL' (by rw [em]; exact hit.1) (by rw [el]; exact hit.2.2) ar dy pl
        rw [eL']
        have HE : Hid (L' = L - (xs.length + szVs (xs.take k))) := eL
        obtain ⟨sz, esz⟩ : ∃ y, y = szV x := ⟨_, rfl⟩
        rw [← esz] at HS htk
        rw [← em] at d0
        rw [← ear] at d1
        rw [← edy] at d2
        rw [← epl] at d3
        rw [← el] at d4
        clear eL eL' hcs h0 hit ex esz h1 h2 em ear edy epl el
        by_cases hfit : sz ≤ L'
        · have e : szR L' sz = (L' : Int) - sz := by simp [szR, hfit]
          rw [e] at HS
          have h0' : ¬ ((L' : Int) - sz < 0) := by omega
          go_wp2_with fail
          refine HS.mono ?_
          rintro e w' ⟨rfl, hb1⟩
          go_wp2_with fail
          go_roundw
          case rel => exact ⟨k + 1, by omega, by go_num, by have := HT.out; have := htk.out; have := HE.out; show _ ≤ _; omega, by have := HT.out; have := htk.out; have := HE.out; congr 1; omega, Below.on HB.out hb1⟩
          case measure => simp [intOf]; omega
        · have e : szR L' sz = -1 := by simp [szR, hfit]
          rw [e] at HS
          go_wp2_with fail
          refine HS.mono ?_
          rintro e w' ⟨rfl, hb1⟩
          go_wp2_with fail
          go_ret
          refine ⟨ret_int ?_, Below.on HB.out hb1⟩
          have := HT.out; have := htk.out; have := HE.out; have := htl.out
          rw [szR, if_neg (by omega)]
      · obtain rfl : k = xs.length := by omega
        have hfull : xs.take xs.length = xs := List.take_length
        rw [hfull] at HT ⊢
        clear hfull
        go_wp2_with fail
        go_ret
        exact ⟨ret_int (by rw [szR, if_pos HT.out]), HB.out⟩
  · have e : szR L (xs.length + szVs xs) = -1 := by rw [szR, if_neg (by omega)]
    rw [e]
    have h0 : (L : Int) - xs.length < 0 := by omega
    go_enter Tryz.func45, Tryz.ntmps45
    go_wp2_with fail
    go_ret
    exact ⟨rfl, Below.refl _ _⟩
def szK (xs : List Iv) (ys : List Pv) : Nat := (xs.length + szIs xs) + (ys.length + szVs ys)
set_option maxRecDepth 100000 in
theorem szCode_any (p : Option Addr) (cp : Nat) (xs : List Iv) (g : Option Addr) (cg : Nat) (ys : List Pv) (L : Nat) (w : World) (hL : L ≤ 1048576) (hp : IvArg w p xs) (hg : PvArg w g ys) :
    Calls Tryz.prog 22 #[.agg #[.slice p xs.length cp, .slice g ys.length cg], .int .i64 L] w fun e w' => e = .returned (.int .i64 (szR L (szK xs ys))) ∧ Below w.heap.size w w' := by
  obtain ⟨np, enp⟩ : ∃ x, x = xs.length := ⟨_, rfl⟩
  obtain ⟨ng, eng⟩ : ∃ x, x = ys.length := ⟨_, rfl⟩
  obtain ⟨bx, ebx⟩ : ∃ bx : Obj, bx = .cells #[.slice p np cp, .slice g ng cg] 46 := ⟨_, rfl⟩
  have HAL : Hid (Below w.heap.size w (w.alloc bx)) := (Below.refl _ _).alloc (Nat.le_refl _) _
  have HBX : Hid (∀ W, Below (w.alloc bx).heap.size (w.alloc bx) W → W.cell? ⟨w.heap.size, 1, none⟩ = some (.slice g ng cg) ∧ Below w.heap.size w W) := fun W hW => by
    have hk : W.heap[w.heap.size]? = some bx := (hW.block w.heap.size (by simp)).trans (heap_alloc_new w _)
    rw [ebx] at hk
    exact ⟨(BoxL.of_block hk).2.1 1 (by simp), Below.on HAL.out hW⟩
  have HEB : Hid (bx = .cells #[.slice p np cp, .slice g ng cg] 46) := ebx
  have H1 := szInsS_any p cp xs L (w.alloc bx) hL (hp.below HAL.out)
  have H2 : Hid (∀ L2 W, L2 ≤ 1048576 → Below w.heap.size w W → Calls Tryz.prog 45 #[.slice g ng cg, .int .i64 (L2 : Nat)] W fun e w' => e = .returned (.int .i64 (szR L2 (ys.length + szVs ys))) ∧ Below W.heap.size W w') := fun L2 W hL2 hW => by rw [eng]; exact szProcS_any g cg ys L2 W hL2 (hg.below hW)
  rw [← enp] at H1
  rw [← enp, ← eng]
  unfold szK
  by_cases h1 : xs.length + szIs xs ≤ L
  · have h1n : np + szIs xs ≤ L := by omega
    rw [szR_is h1n] at H1
    rw [szR_two h1]
    rw [enp] at H1
    obtain ⟨L1, eL1⟩ : ∃ y, y = L - (xs.length + szIs xs) := ⟨_, rfl⟩
    rw [← eL1] at H1 ⊢
    rw [← enp] at H1
    have hL1 : L1 ≤ 1048576 := by omega
    have hl1 : ¬ ((L1 : Int) < 0) := by omega
    have H2' : Hid (∀ W, Below w.heap.size w W → Calls Tryz.prog 45 #[.slice g ng cg, .int .i64 L1] W fun e w' => e = .returned (.int .i64 (szR L1 (ys.length + szVs ys))) ∧ Below W.heap.size W w') := fun W hW => H2.out L1 W hL1 hW
    by_cases h2 : ys.length + szVs ys ≤ L1
    · rw [szR_is h2] at H2' ⊢
      obtain ⟨L2, eL2⟩ : ∃ y, y = L1 - (ys.length + szVs ys) := ⟨_, rfl⟩
      rw [← eL2] at H2' ⊢
      have hl2 : ¬ ((L2 : Int) < 0) := by omega
      clear hp hg enp eng ebx h1 h1n h2 eL1 eL2 H2
      go_enter Tryz.func22, Tryz.ntmps22
      go_wp2_with fail
      rw [← HEB.out]
      refine H1.mono ?_
      rintro e w1 ⟨rfl, hb1⟩
      obtain ⟨c1, hB1⟩ := HBX.out w1 hb1
      have H3 := H2'.out w1 hB1
      have HB1 : Hid (Below w.heap.size w w1) := hB1
      clear hb1 hB1 H1
      go_wp2_with fail
      refine H3.mono ?_
      rintro e w2 ⟨rfl, hb2⟩
      have HB2 : Hid (Below w.heap.size w w2) := Below.on HB1.out hb2
      clear hb2 H3
      go_wp2_with fail
      go_ret
      exact ⟨rfl, HB2.out⟩
    · rw [szR_not h2] at H2' ⊢
      clear hp hg enp eng ebx h1 h1n h2 eL1 H2
      go_enter Tryz.func22, Tryz.ntmps22
      go_wp2_with fail
      rw [← HEB.out]
      refine H1.mono ?_
      rintro e w1 ⟨rfl, hb1⟩
      obtain ⟨c1, hB1⟩ := HBX.out w1 hb1
      have H3 := H2'.out w1 hB1
      have HB1 : Hid (Below w.heap.size w w1) := hB1
      clear hb1 hB1 H1
      go_wp2_with fail
      refine H3.mono ?_
      rintro e w2 ⟨rfl, hb2⟩
      have HB2 : Hid (Below w.heap.size w w2) := Below.on HB1.out hb2
      clear hb2 H3
      go_wp2_with fail
      go_ret
      exact ⟨rfl, HB2.out⟩
  · have h1n : ¬ np + szIs xs ≤ L := by omega
    rw [szR_not h1n] at H1
    rw [szR_no h1]
    clear hp hg enp eng ebx h1 h1n H2
    go_enter Tryz.func22, Tryz.ntmps22
    go_wp2_with fail
    rw [← HEB.out]
    refine H1.mono ?_
    rintro e w1 ⟨rfl, hb1⟩
    have HB1 : Hid (Below w.heap.size w w1) := (HBX.out w1 hb1).2
    clear hb1 H1
    go_wp2_with fail
    go_ret
    exact ⟨rfl, HB1.out⟩
end Go.Proofs.YtjhbplgppakhoaaGreatDoor

namespace Go.Proofs.YtjhbplgppakhoaaGreatDoor
open Go Go.RowKit
set_option linter.unusedVariables false
set_option linter.unusedSimpArgs false
theorem keep_set (w : World) (b o : Nat) (v : Value) : Keep b (b + 1) w (w.setCell ⟨b, o, none⟩ v) := ⟨rfl, rfl, rfl, by simp, fun k hk hor => Below.heap_setCell _ _ _ _ (show k ≠ b by omega)⟩
structure IvOwn (w : World) (lo hi : Nat) (q s u : Option Addr) (x : Iv) : Prop where
  ex : ∃ m1 m2, lo ≤ m1 ∧ m1 ≤ m2 ∧ m2 ≤ hi ∧ OwnTU w lo m1 q x.c.2.2.length x.c.2.2.length x.c.2.2 ∧ OwnCU w m1 m2 s x.K.length x.K.length x.K ∧ OwnIU w m2 hi u x.L.length x.L.length x.L
theorem IvOwn.keep {w w' : World} {lo hi B U : Nat} {q s u : Option Addr} {x : Iv} (h : IvOwn w lo hi q s u x) (hk : Keep B U w w') (ho : hi ≤ B ∨ U ≤ lo) : IvOwn w' lo hi q s u x := by
  obtain ⟨m1, m2, h1, h2, h3, h4, h5, h6⟩ := h.ex
  exact ⟨m1, m2, h1, h2, h3, h4.keep hk (by omega), h5.keep hk (by omega), h6.keep hk (by omega)⟩
theorem IvOwn.on {w w' : World} {lo hi : Nat} {q s u : Option Addr} {x : Iv} (h : IvOwn w lo hi q s u x) (hb : Below w.heap.size w w') : IvOwn w' lo hi q s u x := by
  obtain ⟨m1, m2, h1, h2, h3, h4, h5, h6⟩ := h.ex
  exact ⟨m1, m2, h1, h2, h3, h4.on hb, h5.below hb, h6.on hb⟩
theorem OwnTU.down {w : World} {B B' U : Nat} {p : Option Addr} {n c : Nat} {t : List Int} (h : OwnTU w B U p n c t) (hB : B' ≤ B) : OwnTU w B' U p n c t := ⟨h.1.mono hB, h.2⟩
theorem IvOwn.down {w : World} {lo lo' hi : Nat} {q s u : Option Addr} {x : Iv} (h : IvOwn w lo hi q s u x) (hl : lo' ≤ lo) : IvOwn w lo' hi q s u x := by
  obtain ⟨m1, m2, h1, h2, h3, h4, h5, h6⟩ := h.ex
  exact ⟨m1, m2, by omega, h2, h3, h4.down hl, h5, h6⟩
theorem IvOwn.ins {w : World} {lo hi : Nat} {q s u : Option Addr} {x : Iv} (h : IvOwn w lo hi q s u x) : BIn w q x.c.2.2 ∧ CIn w s x.K ∧ IIn w u x.L := by
  obtain ⟨m1, m2, h1, h2, h3, h4, h5, h6⟩ := h.ex
  exact ⟨h4.1.bin, h5.toC.cin, h6.1.iin⟩
structure PvOwn (w : World) (lo hi : Nat) (q u : Option Addr) (x : Pv) : Prop where
  ex : ∃ m1, lo ≤ m1 ∧ m1 ≤ hi ∧ OwnTU w lo m1 q x.nm.length x.nm.length x.nm ∧ OwnIU w m1 hi u x.cl.length x.cl.length x.cl
theorem PvOwn.keep {w w' : World} {lo hi B U : Nat} {q u : Option Addr} {x : Pv} (h : PvOwn w lo hi q u x) (hk : Keep B U w w') (ho : hi ≤ B ∨ U ≤ lo) : PvOwn w' lo hi q u x := by
  obtain ⟨m1, h1, h2, h4, h6⟩ := h.ex
  exact ⟨m1, h1, h2, h4.keep hk (by omega), h6.keep hk (by omega)⟩
theorem PvOwn.on {w w' : World} {lo hi : Nat} {q u : Option Addr} {x : Pv} (h : PvOwn w lo hi q u x) (hb : Below w.heap.size w w') : PvOwn w' lo hi q u x := by
  obtain ⟨m1, h1, h2, h4, h6⟩ := h.ex
  exact ⟨m1, h1, h2, h4.on hb, h6.on hb⟩
theorem PvOwn.down {w : World} {lo lo' hi : Nat} {q u : Option Addr} {x : Pv} (h : PvOwn w lo hi q u x) (hl : lo' ≤ lo) : PvOwn w lo' hi q u x := by
  obtain ⟨m1, h1, h2, h4, h6⟩ := h.ex
  exact ⟨m1, by omega, h2, h4.down hl, h6⟩
theorem PvOwn.ins {w : World} {lo hi : Nat} {q u : Option Addr} {x : Pv} (h : PvOwn w lo hi q u x) : BIn w q x.nm ∧ IIn w u x.cl := by
  obtain ⟨m1, h1, h2, h4, h6⟩ := h.ex
  exact ⟨h4.1.bin, h6.1.iin⟩
set_option maxRecDepth 100000 in
set_option maxHeartbeats 2000000 in
theorem toIns_any (x : Iv) (q : Option Addr) (m qc : Nat) (s : Option Addr) (n sc : Nat) (u : Option Addr) (l uc : Nat) (op r a kd cn : Int) (w : World) (hm : m = x.c.2.2.length) (hn : n = x.K.length) (hl : l = x.L.length) (hsz : szI x ≤ 1048576) (hq : BIn w q x.c.2.2) (hs : CIn w s x.K) (hu : IIn w u x.L) :
    Calls Tryz.prog 80 #[.agg #[.int .i64 op, .int .i64 r, .int .i64 a, .int .i64 kd, .int .i64 cn, .slice q m qc, .slice s n sc, .slice u l uc]] w fun e w' => ∃ q' s' u', e = .returned (.agg #[.int .i64 op, .int .i64 r, .int .i64 a, .int .i64 kd, .int .i64 cn, .slice q' m m, .slice s' n n, .slice u' l l]) ∧ IvOwn w' w.heap.size w'.heap.size q' s' u' x ∧ Below w.heap.size w w' := by
  unfold szI at hsz
  have HS : Hid (∀ W, Below w.heap.size w W → Calls Tryz.prog 35 #[.agg #[.int .i64 kd, .int .i64 cn, .slice q m qc]] W fun e w' => ∃ g, e = .returned (.agg #[.int .i64 kd, .int .i64 cn, .slice (some ⟨g, 0, none⟩) m m]) ∧ OwnS w' W.heap.size (some ⟨g, 0, none⟩) m m x.c.2.2 ∧ Below W.heap.size W w') := fun W hW => toCell_any kd cn q m qc x.c.2.2 W hm (by omega) (hq.below hW)
  have HC : Hid (∀ W, Below w.heap.size w W → Calls Tryz.prog 10 #[.slice s n sc] W fun e w' => e = .returned (.slice (some ⟨W.heap.size, 0, none⟩) n n) ∧ OwnC w' W.heap.size (some ⟨W.heap.size, 0, none⟩) n n x.K ∧ Below W.heap.size W w') := fun W hW => by rw [hn]; exact toCellS_any s sc x.K W (by omega) (hs.below hW)
  have HI : Hid (∀ W, Below w.heap.size w W → Calls Tryz.prog 118 #[.slice u l uc] W fun e w' => e = .returned (.slice (some ⟨W.heap.size, 0, none⟩) l l) ∧ OwnI w' W.heap.size 3 (some ⟨W.heap.size, 0, none⟩) l l x.L ∧ Below W.heap.size W w') := fun W hW => by
    rw [hl]
    refine (toIntS_any u uc x.L W (by omega) (hu.below hW)).mono ?_
    rintro e w1 ⟨h1, h2, h3⟩
    exact ⟨h1, ⟨rfl, h2⟩, h3⟩
  have HM : Hid (m = x.c.2.2.length ∧ n = x.K.length ∧ l = x.L.length) := ⟨hm, hn, hl⟩
  clear hm hn hl hq hs hu hsz
  go_enter Tryz.func80, Tryz.ntmps80
  go_wp2_with fail
  have hb0 : ∀ a b c, Below w.heap.size w (((w.alloc a).alloc b).alloc c) := fun a b c => (((Below.refl _ _).alloc (Nat.le_refl _) _).alloc (by simp) _).alloc (by simp; omega) _
  refine (HS.out _ (hb0 _ _ _)).mono ?_
  rintro e w1 ⟨g1, rfl, hown, hb1⟩
  have b0 : BoxL w1 (w.heap.size) [.int .i64 op, .int .i64 r, .int .i64 a, .int .i64 kd, .int .i64 cn, .slice q m qc, .slice s n sc, .slice u l uc] := BoxL.of_block ((hb1.block w.heap.size (by simp; omega)).trans (heap_threeL w _ _ _).1)
  have b1 : BoxL w1 (w.heap.size + 1) [.int .i64 0, .int .i64 0, .int .i64 0, .int .i64 0, .int .i64 0, .slice none 0 0, .slice none 0 0, .slice none 0 0] := BoxL.of_block ((hb1.block (w.heap.size + 1) (by simp)).trans (heap_threeL w _ _ _).2.1)
  have b2 : BoxL w1 (w.heap.size + 1 + 1) [.int .i64 op, .int .i64 r, .int .i64 a, .int .i64 0, .int .i64 0, .slice none 0 0, .slice none 0 0, .slice none 0 0] := BoxL.of_block ((hb1.block (w.heap.size + 1 + 1) (by simp)).trans (heap_threeL w _ _ _).2.2)
  simp only [World.size_alloc] at hown
  have HO : Hid (OwnTU w1 (w.heap.size + 1 + 1 + 1) w1.heap.size (some ⟨g1, 0, none⟩) m m x.c.2.2) := hown.toT.up
  have HB1 : Hid (Below w.heap.size w w1) := Below.on (hb0 _ _ _) hb1
  have HG : Hid (w.heap.size + 1 + 1 + 1 ≤ w1.heap.size) := by have := hb1.size; simp at this; exact this
  clear hown hb1 hb0
  obtain ⟨W1, hW1⟩ : ∃ W, W = (((w1.setCell ⟨w.heap.size + 1 + 1, 3, none⟩ (.int .i64 kd)).setCell ⟨w.heap.size + 1 + 1, 4, none⟩ (.int .i64 cn)).setCell ⟨w.heap.size + 1 + 1, 5, none⟩ (.slice (some ⟨g1, 0, none⟩) m m)) := ⟨_, rfl⟩
  have B1 : BoxL W1 (w.heap.size + 1) [.int .i64 0, .int .i64 0, .int .i64 0, .int .i64 0, .int .i64 0, .slice none 0 0, .slice none 0 0, .slice none 0 0] := by rw [hW1]; exact ((b1.other (by simp) _).other (by simp) _).other (by simp) _
  have B0 : BoxL W1 w.heap.size [.int .i64 op, .int .i64 r, .int .i64 a, .int .i64 kd, .int .i64 cn, .slice q m qc, .slice s n sc, .slice u l uc] := by rw [hW1]; exact ((b0.other (by simp; omega) _).other (by simp; omega) _).other (by simp; omega) _
  have B2 : BoxL W1 (w.heap.size + 1 + 1) [.int .i64 op, .int .i64 r, .int .i64 a, .int .i64 kd, .int .i64 cn, .slice (some ⟨g1, 0, none⟩) m m, .slice none 0 0, .slice none 0 0] := by rw [hW1]; exact (((b2.set 3 (.int .i64 kd) (by simp)).set 4 (.int .i64 cn) (by simp)).set 5 (.slice (some ⟨g1, 0, none⟩) m m) (by simp))
  have HBW : Hid (Below w.heap.size w W1) := by show Below _ _ _; rw [hW1]; exact (((HB1.out.setCell (p := ⟨_, _, none⟩) (by first | (simp; done) | (simp; omega)) _).setCell (p := ⟨_, _, none⟩) (by first | (simp; done) | (simp; omega)) _).setCell (p := ⟨_, _, none⟩) (by first | (simp; done) | (simp; omega)) _)
  have HO1 : Hid (OwnTU W1 (w.heap.size + 1 + 1 + 1) w1.heap.size (some ⟨g1, 0, none⟩) m m x.c.2.2 ∧ W1.heap.size = w1.heap.size) := by
    rw [hW1]
    exact ⟨((HO.out.keep (keep_set _ _ _ _) (.inr (Nat.le_refl _))).keep (keep_set _ _ _ _) (.inr (Nat.le_refl _))).keep (keep_set _ _ _ _) (.inr (Nat.le_refl _)), by simp⟩
  have HC1 := HC.out W1 HBW.out
  have HB1L : Hid (BoxL W1 (w.heap.size + 1) [.int .i64 0, .int .i64 0, .int .i64 0, .int .i64 0, .int .i64 0, .slice none 0 0, .slice none 0 0, .slice none 0 0] ∧ BoxL W1 w.heap.size [.int .i64 op, .int .i64 r, .int .i64 a, .int .i64 kd, .int .i64 cn, .slice q m qc, .slice s n sc, .slice u l uc] ∧ BoxL W1 (w.heap.size + 1 + 1) [.int .i64 op, .int .i64 r, .int .i64 a, .int .i64 kd, .int .i64 cn, .slice (some ⟨g1, 0, none⟩) m m, .slice none 0 0, .slice none 0 0]) := ⟨B1, B0, B2⟩
  have HW1 : Hid (W1 = (((w1.setCell ⟨w.heap.size + 1 + 1, 3, none⟩ (.int .i64 kd)).setCell ⟨w.heap.size + 1 + 1, 4, none⟩ (.int .i64 cn)).setCell ⟨w.heap.size + 1 + 1, 5, none⟩ (.slice (some ⟨g1, 0, none⟩) m m))) := hW1
  have a0 : w1.cell? ⟨w.heap.size, 0, none⟩ = some (.int .i64 op) := b0.2.1 0 (by simp)
  have a1 : w1.cell? ⟨w.heap.size, 1, none⟩ = some (.int .i64 r) := b0.2.1 1 (by simp)
  have a2 : w1.cell? ⟨w.heap.size, 2, none⟩ = some (.int .i64 a) := b0.2.1 2 (by simp)
  have a3 : w1.cell? ⟨w.heap.size, 3, none⟩ = some (.int .i64 kd) := b0.2.1 3 (by simp)
  have a4 : w1.cell? ⟨w.heap.size, 4, none⟩ = some (.int .i64 cn) := b0.2.1 4 (by simp)
  have a5 : w1.cell? ⟨w.heap.size, 5, none⟩ = some (.slice q m qc) := b0.2.1 5 (by simp)
  have a6 : w1.cell? ⟨w.heap.size, 6, none⟩ = some (.slice s n sc) := b0.2.1 6 (by simp)
  have a7 : w1.cell? ⟨w.heap.size, 7, none⟩ = some (.slice u l uc) := b0.2.1 7 (by simp)
  have c23 : w1.cell? ⟨w.heap.size + 1 + 1, 3, none⟩ = some (.int .i64 0) := b2.2.1 3 (by simp)
  have c24 : w1.cell? ⟨w.heap.size + 1 + 1, 4, none⟩ = some (.int .i64 0) := b2.2.1 4 (by simp)
  have c25 : w1.cell? ⟨w.heap.size + 1 + 1, 5, none⟩ = some (.slice none 0 0) := b2.2.1 5 (by simp)
  have f2 := b2.2.2
  have a6' : W1.cell? ⟨w.heap.size, 6, none⟩ = some (.slice s n sc) := B0.2.1 6 (by simp)
  rw [hW1] at a6'
  clear b0 b1 b2 B1 B0 B2 hW1 HO
  go_wp2_with fail
  rw [← HW1.out]
  refine HC1.mono ?_
  rintro e w2 ⟨rfl, hown2, hb2⟩
  obtain ⟨g2, eg2⟩ : ∃ g, g = W1.heap.size := ⟨_, rfl⟩
  rw [← eg2] at hown2 ⊢
  have B1 := HB1L.out.1.below hb2
  have B0 := HB1L.out.2.1.below hb2
  have B2 := HB1L.out.2.2.below hb2
  have HB2 : Hid (Below w.heap.size w w2) := Below.on HBW.out hb2
  have hz2 : g2 ≤ w2.heap.size := by have := hb2.size; omega
  have HO2 : Hid (OwnTU w2 (w.heap.size + 1 + 1 + 1) g2 (some ⟨g1, 0, none⟩) m m x.c.2.2 ∧ OwnCU w2 g2 w2.heap.size (some ⟨g2, 0, none⟩) n n x.K ∧ w.heap.size + 1 + 1 + 1 ≤ g2 ∧ g2 ≤ w2.heap.size) := by
    have h9 := HO1.out.1.on hb2
    have e9 : g2 = w1.heap.size := by rw [eg2]; exact HO1.out.2
    rw [← e9] at h9
    exact ⟨h9, hown2.up, by have := HG.out; omega, hz2⟩
  clear hown2 hb2 HC1 eg2 hz2 a0 a1 a2 a3 a4 a5 a6 a7 c23 c24 c25 f2 a6'
  obtain ⟨W2, hW2⟩ : ∃ W, W = (w2.setCell ⟨w.heap.size + 1 + 1, 6, none⟩ (.slice (some ⟨g2, 0, none⟩) n n)) := ⟨_, rfl⟩
  have C1 : BoxL W2 (w.heap.size + 1) [.int .i64 0, .int .i64 0, .int .i64 0, .int .i64 0, .int .i64 0, .slice none 0 0, .slice none 0 0, .slice none 0 0] := by rw [hW2]; exact B1.other (by simp) _
  have C0 : BoxL W2 w.heap.size [.int .i64 op, .int .i64 r, .int .i64 a, .int .i64 kd, .int .i64 cn, .slice q m qc, .slice s n sc, .slice u l uc] := by rw [hW2]; exact B0.other (by simp; omega) _
  have C2 : BoxL W2 (w.heap.size + 1 + 1) [.int .i64 op, .int .i64 r, .int .i64 a, .int .i64 kd, .int .i64 cn, .slice (some ⟨g1, 0, none⟩) m m, .slice (some ⟨g2, 0, none⟩) n n, .slice none 0 0] := by rw [hW2]; exact B2.set 6 _ (by simp)
  have HBW2 : Hid (Below w.heap.size w W2) := by show Below _ _ _; rw [hW2]; exact HB2.out.setCell (p := ⟨_, _, none⟩) (by simp; omega) _
  have HO3 : Hid (OwnTU W2 (w.heap.size + 1 + 1 + 1) g2 (some ⟨g1, 0, none⟩) m m x.c.2.2 ∧ OwnCU W2 g2 w2.heap.size (some ⟨g2, 0, none⟩) n n x.K ∧ w.heap.size + 1 + 1 + 1 ≤ g2 ∧ g2 ≤ w2.heap.size ∧ W2.heap.size = w2.heap.size) := by
    obtain ⟨h1, h2, h3, h4⟩ := HO2.out
    rw [hW2]
    exact ⟨h1.keep (keep_set _ _ _ _) (.inr (Nat.le_refl _)), h2.keep (keep_set _ _ _ _) (.inr h3), h3, h4, by simp⟩
  have HI1 := HI.out W2 HBW2.out
  have HB2L : Hid (BoxL W2 (w.heap.size + 1) [.int .i64 0, .int .i64 0, .int .i64 0, .int .i64 0, .int .i64 0, .slice none 0 0, .slice none 0 0, .slice none 0 0] ∧ BoxL W2 (w.heap.size + 1 + 1) [.int .i64 op, .int .i64 r, .int .i64 a, .int .i64 kd, .int .i64 cn, .slice (some ⟨g1, 0, none⟩) m m, .slice (some ⟨g2, 0, none⟩) n n, .slice none 0 0]) := ⟨C1, C2⟩
  have HW2 : Hid (W2 = (w2.setCell ⟨w.heap.size + 1 + 1, 6, none⟩ (.slice (some ⟨g2, 0, none⟩) n n))) := hW2
  have c26 : w2.cell? ⟨w.heap.size + 1 + 1, 6, none⟩ = some (.slice none 0 0) := B2.2.1 6 (by simp)
  have f2 := B2.2.2
  have a7' : W2.cell? ⟨w.heap.size, 7, none⟩ = some (.slice u l uc) := C0.2.1 7 (by simp)
  rw [hW2] at a7'
  clear B0 B1 B2 C0 C1 C2 hW2 HO2
  go_wp2_with fail
  rw [← HW2.out]
  refine HI1.mono ?_
  rintro e w3 ⟨rfl, hown3, hb3⟩
  obtain ⟨g3, eg3⟩ : ∃ g, g = W2.heap.size := ⟨_, rfl⟩
  rw [← eg3] at hown3 ⊢
  have B1 := HB2L.out.1.below hb3
  have B2 := HB2L.out.2.below hb3
  have HB3 : Hid (Below w.heap.size w w3) := Below.on HBW2.out hb3
  have hz3 : g3 ≤ w3.heap.size := by have := hb3.size; omega
  have HIT : Hid (IvOwn w3 (w.heap.size + 1 + 1 + 1) w3.heap.size (some ⟨g1, 0, none⟩) (some ⟨g2, 0, none⟩) (some ⟨g3, 0, none⟩) x) := by
    obtain ⟨h1, h2, h3, h4, h5⟩ := HO3.out
    obtain ⟨e1, e2, e3⟩ := HM.out
    have e9 : g3 = w2.heap.size := by rw [eg3]; exact h5
    rw [← e9] at h2 h4
    refine ⟨g2, g3, h3, h4, hz3, ?_, ?_, ?_⟩
    · have := h1.on hb3; rw [← e1]; exact this
    · have := h2.below hb3; rw [← e2]; exact this
    · have := hown3.up; rw [← e3]; exact this
  have HH : Hid (w.heap.size + 1 + 1 + 1 ≤ w3.heap.size) := by obtain ⟨h1, h2, h3, h4, h5⟩ := HO3.out; show _ ≤ _; omega
  clear hown3 hb3 HI1 eg3 hz3 c26 f2 a7'
  obtain ⟨W3, hW3⟩ : ∃ W, W = (w3.setCell ⟨w.heap.size + 1 + 1, 7, none⟩ (.slice (some ⟨g3, 0, none⟩) l l)) := ⟨_, rfl⟩
  have D1 : BoxL W3 (w.heap.size + 1) [.int .i64 0, .int .i64 0, .int .i64 0, .int .i64 0, .int .i64 0, .slice none 0 0, .slice none 0 0, .slice none 0 0] := by rw [hW3]; exact B1.other (by simp) _
  have D2 : BoxL W3 (w.heap.size + 1 + 1) [.int .i64 op, .int .i64 r, .int .i64 a, .int .i64 kd, .int .i64 cn, .slice (some ⟨g1, 0, none⟩) m m, .slice (some ⟨g2, 0, none⟩) n n, .slice (some ⟨g3, 0, none⟩) l l] := by rw [hW3]; exact B2.set 7 _ (by simp)
  obtain ⟨W4, hW4⟩ : ∃ W, W = ((((((((W3.setCell ⟨w.heap.size + 1, 0, none⟩ (.int .i64 op)).setCell ⟨w.heap.size + 1, 1, none⟩ (.int .i64 r)).setCell ⟨w.heap.size + 1, 2, none⟩ (.int .i64 a)).setCell ⟨w.heap.size + 1, 3, none⟩ (.int .i64 kd)).setCell ⟨w.heap.size + 1, 4, none⟩ (.int .i64 cn)).setCell ⟨w.heap.size + 1, 5, none⟩ (.slice (some ⟨g1, 0, none⟩) m m)).setCell ⟨w.heap.size + 1, 6, none⟩ (.slice (some ⟨g2, 0, none⟩) n n)).setCell ⟨w.heap.size + 1, 7, none⟩ (.slice (some ⟨g3, 0, none⟩) l l)) := ⟨_, rfl⟩
  have E1 : BoxL W4 (w.heap.size + 1) [.int .i64 op, .int .i64 r, .int .i64 a, .int .i64 kd, .int .i64 cn, .slice (some ⟨g1, 0, none⟩) m m, .slice (some ⟨g2, 0, none⟩) n n, .slice (some ⟨g3, 0, none⟩) l l] := by rw [hW4]; exact ((((((((D1.set 0 (.int .i64 op) (by simp)).set 1 (.int .i64 r) (by simp)).set 2 (.int .i64 a) (by simp)).set 3 (.int .i64 kd) (by simp)).set 4 (.int .i64 cn) (by simp)).set 5 (.slice (some ⟨g1, 0, none⟩) m m) (by simp)).set 6 (.slice (some ⟨g2, 0, none⟩) n n) (by simp)).set 7 (.slice (some ⟨g3, 0, none⟩) l l) (by simp))
  have HIT4 : Hid (IvOwn W4 (w.heap.size + 1 + 1 + 1) W4.heap.size (some ⟨g1, 0, none⟩) (some ⟨g2, 0, none⟩) (some ⟨g3, 0, none⟩) x) := by
    have hz : W4.heap.size = w3.heap.size := by rw [hW4, hW3]; simp
    rw [hz, hW4, hW3]
    exact (((((((((HIT.out.keep (keep_set _ _ _ _) (.inr (by omega))).keep (keep_set _ _ _ _) (.inr (by omega))).keep (keep_set _ _ _ _) (.inr (by omega))).keep (keep_set _ _ _ _) (.inr (by omega))).keep (keep_set _ _ _ _) (.inr (by omega))).keep (keep_set _ _ _ _) (.inr (by omega))).keep (keep_set _ _ _ _) (.inr (by omega))).keep (keep_set _ _ _ _) (.inr (by omega))).keep (keep_set _ _ _ _) (.inr (by omega)))
  have HB4 : Hid (Below w.heap.size w W4) := by
    show Below _ _ _
    rw [hW4, hW3]
    exact (((((((((HB3.out.setCell (p := ⟨_, _, none⟩) (by first | (simp; done) | (simp; omega)) _).setCell (p := ⟨_, _, none⟩) (by first | (simp; done) | (simp; omega)) _).setCell (p := ⟨_, _, none⟩) (by first | (simp; done) | (simp; omega)) _).setCell (p := ⟨_, _, none⟩) (by first | (simp; done) | (simp; omega)) _).setCell (p := ⟨_, _, none⟩) (by first | (simp; done) | (simp; omega)) _).setCell (p := ⟨_, _, none⟩) (by first | (simp; done) | (simp; omega)) _).setCell (p := ⟨_, _, none⟩) (by first | (simp; done) | (simp; omega)) _).setCell (p := ⟨_, _, none⟩) (by first | (simp; done) | (simp; omega)) _).setCell (p := ⟨_, _, none⟩) (by first | (simp; done) | (simp; omega)) _)
  have HE1 : Hid (BoxL W4 (w.heap.size + 1) [.int .i64 op, .int .i64 r, .int .i64 a, .int .i64 kd, .int .i64 cn, .slice (some ⟨g1, 0, none⟩) m m, .slice (some ⟨g2, 0, none⟩) n n, .slice (some ⟨g3, 0, none⟩) l l]) := E1
  have HW3 : Hid (W3 = (w3.setCell ⟨w.heap.size + 1 + 1, 7, none⟩ (.slice (some ⟨g3, 0, none⟩) l l))) := hW3
  have HW4 : Hid (W4 = ((((((((W3.setCell ⟨w.heap.size + 1, 0, none⟩ (.int .i64 op)).setCell ⟨w.heap.size + 1, 1, none⟩ (.int .i64 r)).setCell ⟨w.heap.size + 1, 2, none⟩ (.int .i64 a)).setCell ⟨w.heap.size + 1, 3, none⟩ (.int .i64 kd)).setCell ⟨w.heap.size + 1, 4, none⟩ (.int .i64 cn)).setCell ⟨w.heap.size + 1, 5, none⟩ (.slice (some ⟨g1, 0, none⟩) m m)).setCell ⟨w.heap.size + 1, 6, none⟩ (.slice (some ⟨g2, 0, none⟩) n n)).setCell ⟨w.heap.size + 1, 7, none⟩ (.slice (some ⟨g3, 0, none⟩) l l))) := hW4
  have c27 : w3.cell? ⟨w.heap.size + 1 + 1, 7, none⟩ = some (.slice none 0 0) := B2.2.1 7 (by simp)
  have f2 := B2.2.2
  have z0 : W3.cell? ⟨w.heap.size + 1 + 1, 0, none⟩ = some (.int .i64 op) := D2.2.1 0 (by simp)
  have z1 : W3.cell? ⟨w.heap.size + 1 + 1, 1, none⟩ = some (.int .i64 r) := D2.2.1 1 (by simp)
  have z2 : W3.cell? ⟨w.heap.size + 1 + 1, 2, none⟩ = some (.int .i64 a) := D2.2.1 2 (by simp)
  have z3 : W3.cell? ⟨w.heap.size + 1 + 1, 3, none⟩ = some (.int .i64 kd) := D2.2.1 3 (by simp)
  have z4 : W3.cell? ⟨w.heap.size + 1 + 1, 4, none⟩ = some (.int .i64 cn) := D2.2.1 4 (by simp)
  have z5 : W3.cell? ⟨w.heap.size + 1 + 1, 5, none⟩ = some (.slice (some ⟨g1, 0, none⟩) m m) := D2.2.1 5 (by simp)
  have z6 : W3.cell? ⟨w.heap.size + 1 + 1, 6, none⟩ = some (.slice (some ⟨g2, 0, none⟩) n n) := D2.2.1 6 (by simp)
  have z7 : W3.cell? ⟨w.heap.size + 1 + 1, 7, none⟩ = some (.slice (some ⟨g3, 0, none⟩) l l) := D2.2.1 7 (by simp)
  have y0 : W3.cell? ⟨w.heap.size + 1, 0, none⟩ = some (.int .i64 0) := D1.2.1 0 (by simp)
  have y1 : W3.cell? ⟨w.heap.size + 1, 1, none⟩ = some (.int .i64 0) := D1.2.1 1 (by simp)
  have y2 : W3.cell? ⟨w.heap.size + 1, 2, none⟩ = some (.int .i64 0) := D1.2.1 2 (by simp)
  have y3 : W3.cell? ⟨w.heap.size + 1, 3, none⟩ = some (.int .i64 0) := D1.2.1 3 (by simp)
  have y4 : W3.cell? ⟨w.heap.size + 1, 4, none⟩ = some (.int .i64 0) := D1.2.1 4 (by simp)
  have y5 : W3.cell? ⟨w.heap.size + 1, 5, none⟩ = some (.slice none 0 0) := D1.2.1 5 (by simp)
  have y6 : W3.cell? ⟨w.heap.size + 1, 6, none⟩ = some (.slice none 0 0) := D1.2.1 6 (by simp)
  have y7 : W3.cell? ⟨w.heap.size + 1, 7, none⟩ = some (.slice none 0 0) := D1.2.1 7 (by simp)
  have f1 := D1.2.2
  rw [hW3] at z0 z1 z2 z3 z4 z5 z6 z7 y0 y1 y2 y3 y4 y5 y6 y7 f1
  clear B1 B2 D1 D2 E1 hW3 hW4
  go_wp2_with fail
  have E := HE1.out.2.1
  have q0 := E 0 (by simp); have q1 := E 1 (by simp); have q2 := E 2 (by simp); have q3 := E 3 (by simp); have q4 := E 4 (by simp); have q5 := E 5 (by simp); have q6 := E 6 (by simp); have q7 := E 7 (by simp)
  simp at q0 q1 q2 q3 q4 q5 q6 q7
  rw [← HW3.out, ← HW4.out]
  exact bodyPost_ret (v := .agg #[.int .i64 op, .int .i64 r, .int .i64 a, .int .i64 kd, .int .i64 cn, .slice (some ⟨g1, 0, none⟩) m m, .slice (some ⟨g2, 0, none⟩) n n, .slice (some ⟨g3, 0, none⟩) l l]) (by simp [results, Tryz.results80, go_sem, q0, q1, q2, q3, q4, q5, q6, q7]) rfl ⟨_, _, _, rfl, HIT4.out.down (by omega), HB4.out⟩
end Go.Proofs.YtjhbplgppakhoaaGreatDoor

namespace Go.Proofs.YtjhbplgppakhoaaGreatDoor
open Go Go.RowKit
set_option linter.unusedVariables false
set_option linter.unusedSimpArgs false
set_option maxRecDepth 100000 in
set_option maxHeartbeats 2000000 in
theorem toProc_any (x : Pv) (q : Option Addr) (m qc : Nat) (u : Option Addr) (l uc : Nat) (ar : Int) (dy : Bool) (pl : Int) (w : World) (hm : m = x.nm.length) (hl : l = x.cl.length) (hsz : szV x ≤ 1048576) (hq : BIn w q x.nm) (hu : IIn w u x.cl) :
    Calls Tryz.prog 81 #[.agg #[.slice q m qc, .int .i64 ar, .bool dy, .int .i64 pl, .slice u l uc]] w fun e w' => ∃ q' u', e = .returned (.agg #[.slice q' m m, .int .i64 ar, .bool dy, .int .i64 pl, .slice u' l l]) ∧ PvOwn w' w.heap.size w'.heap.size q' u' x ∧ Below w.heap.size w w' := by
  unfold szV at hsz
  have HS : Hid (∀ W, Below w.heap.size w W → Calls Tryz.prog 36 #[.slice q m qc] W fun e w' => e = .returned (.slice (some ⟨W.heap.size, 0, none⟩) m m) ∧ OwnS w' W.heap.size (some ⟨W.heap.size, 0, none⟩) m m x.nm ∧ Below W.heap.size W w') := fun W hW => by
    rw [hm]
    refine (toByteS_any q qc x.nm W (by omega) (hq.below hW)).mono ?_
    rintro e w1 ⟨h1, h2, h3⟩
    exact ⟨h1, OwnS.of_row h2, h3⟩
  have HI : Hid (∀ W, Below w.heap.size w W → Calls Tryz.prog 118 #[.slice u l uc] W fun e w' => e = .returned (.slice (some ⟨W.heap.size, 0, none⟩) l l) ∧ OwnI w' W.heap.size 3 (some ⟨W.heap.size, 0, none⟩) l l x.cl ∧ Below W.heap.size W w') := fun W hW => by
    rw [hl]
    refine (toIntS_any u uc x.cl W (by omega) (hu.below hW)).mono ?_
    rintro e w1 ⟨h1, h2, h3⟩
    exact ⟨h1, ⟨rfl, h2⟩, h3⟩
  have HM : Hid (m = x.nm.length ∧ l = x.cl.length) := ⟨hm, hl⟩
  clear hm hl hq hu hsz
  go_enter Tryz.func81, Tryz.ntmps81
  go_wp2_with fail
  have hb0 : ∀ a b c, Below w.heap.size w (((w.alloc a).alloc b).alloc c) := fun a b c => (((Below.refl _ _).alloc (Nat.le_refl _) _).alloc (by simp) _).alloc (by simp; omega) _
  refine (HS.out _ (hb0 _ _ _)).mono ?_
  rintro e w1 ⟨rfl, hown, hb1⟩
  have b0 : BoxL w1 (w.heap.size) [.slice q m qc, .int .i64 ar, .bool dy, .int .i64 pl, .slice u l uc] := BoxL.of_block ((hb1.block w.heap.size (by simp; omega)).trans (heap_threeL w _ _ _).1)
  have b1 : BoxL w1 (w.heap.size + 1) [.slice none 0 0, .int .i64 0, .bool false, .int .i64 0, .slice none 0 0] := BoxL.of_block ((hb1.block (w.heap.size + 1) (by simp)).trans (heap_threeL w _ _ _).2.1)
  have b2 : BoxL w1 (w.heap.size + 1 + 1) [.slice none 0 0, .int .i64 0, .bool false, .int .i64 0, .slice none 0 0] := BoxL.of_block ((hb1.block (w.heap.size + 1 + 1) (by simp)).trans (heap_threeL w _ _ _).2.2)
  simp only [World.size_alloc] at hown ⊢
  have HO : Hid (OwnTU w1 (w.heap.size + 1 + 1 + 1) w1.heap.size (some ⟨w.heap.size + 1 + 1 + 1, 0, none⟩) m m x.nm) := hown.toT.up
  have HB1 : Hid (Below w.heap.size w w1) := Below.on (hb0 _ _ _) hb1
  have HG : Hid (w.heap.size + 1 + 1 + 1 ≤ w1.heap.size) := by have := hb1.size; simp at this; exact this
  clear hown hb1 hb0
  obtain ⟨W2, hW2⟩ : ∃ W, W = ((((w1.setCell ⟨w.heap.size + 1 + 1, 0, none⟩ (.slice (some ⟨w.heap.size + 1 + 1 + 1, 0, none⟩) m m)).setCell ⟨w.heap.size + 1 + 1, 1, none⟩ (.int .i64 ar)).setCell ⟨w.heap.size + 1 + 1, 2, none⟩ (.bool dy)).setCell ⟨w.heap.size + 1 + 1, 3, none⟩ (.int .i64 pl)) := ⟨_, rfl⟩
  have C1 : BoxL W2 (w.heap.size + 1) [.slice none 0 0, .int .i64 0, .bool false, .int .i64 0, .slice none 0 0] := by rw [hW2]; exact ((((b1.other (by simp) _).other (by simp) _).other (by simp) _).other (by simp) _)
  have C0 : BoxL W2 w.heap.size [.slice q m qc, .int .i64 ar, .bool dy, .int .i64 pl, .slice u l uc] := by rw [hW2]; exact ((((b0.other (by simp; omega) _).other (by simp; omega) _).other (by simp; omega) _).other (by simp; omega) _)
  have C2 : BoxL W2 (w.heap.size + 1 + 1) [.slice (some ⟨w.heap.size + 1 + 1 + 1, 0, none⟩) m m, .int .i64 ar, .bool dy, .int .i64 pl, .slice none 0 0] := by rw [hW2]; exact ((((b2.set 0 (.slice (some ⟨w.heap.size + 1 + 1 + 1, 0, none⟩) m m) (by simp)).set 1 (.int .i64 ar) (by simp)).set 2 (.bool dy) (by simp)).set 3 (.int .i64 pl) (by simp))
  have HBW2 : Hid (Below w.heap.size w W2) := by show Below _ _ _; rw [hW2]; exact ((((HB1.out.setCell (p := ⟨_, _, none⟩) (by first | (simp; done) | (simp; omega)) _).setCell (p := ⟨_, _, none⟩) (by first | (simp; done) | (simp; omega)) _).setCell (p := ⟨_, _, none⟩) (by first | (simp; done) | (simp; omega)) _).setCell (p := ⟨_, _, none⟩) (by first | (simp; done) | (simp; omega)) _)
  have HO3 : Hid (OwnTU W2 (w.heap.size + 1 + 1 + 1) w1.heap.size (some ⟨w.heap.size + 1 + 1 + 1, 0, none⟩) m m x.nm ∧ W2.heap.size = w1.heap.size) := by
    rw [hW2]
    exact ⟨(((HO.out.keep (keep_set _ _ _ _) (.inr (Nat.le_refl _))).keep (keep_set _ _ _ _) (.inr (Nat.le_refl _))).keep (keep_set _ _ _ _) (.inr (Nat.le_refl _))).keep (keep_set _ _ _ _) (.inr (Nat.le_refl _)), by simp⟩
  have HI1 := HI.out W2 HBW2.out
  have HB2L : Hid (BoxL W2 (w.heap.size + 1) [.slice none 0 0, .int .i64 0, .bool false, .int .i64 0, .slice none 0 0] ∧ BoxL W2 (w.heap.size + 1 + 1) [.slice (some ⟨w.heap.size + 1 + 1 + 1, 0, none⟩) m m, .int .i64 ar, .bool dy, .int .i64 pl, .slice none 0 0]) := ⟨C1, C2⟩
  have HW2 : Hid (W2 = ((((w1.setCell ⟨w.heap.size + 1 + 1, 0, none⟩ (.slice (some ⟨w.heap.size + 1 + 1 + 1, 0, none⟩) m m)).setCell ⟨w.heap.size + 1 + 1, 1, none⟩ (.int .i64 ar)).setCell ⟨w.heap.size + 1 + 1, 2, none⟩ (.bool dy)).setCell ⟨w.heap.size + 1 + 1, 3, none⟩ (.int .i64 pl))) := hW2
  have a0 : w1.cell? ⟨w.heap.size, 0, none⟩ = some (.slice q m qc) := b0.2.1 0 (by simp)
  have a1 : w1.cell? ⟨w.heap.size, 1, none⟩ = some (.int .i64 ar) := b0.2.1 1 (by simp)
  have a2 : w1.cell? ⟨w.heap.size, 2, none⟩ = some (.bool dy) := b0.2.1 2 (by simp)
  have a3 : w1.cell? ⟨w.heap.size, 3, none⟩ = some (.int .i64 pl) := b0.2.1 3 (by simp)
  have a4 : w1.cell? ⟨w.heap.size, 4, none⟩ = some (.slice u l uc) := b0.2.1 4 (by simp)
  have c0 : w1.cell? ⟨w.heap.size + 1 + 1, 0, none⟩ = some (.slice none 0 0) := b2.2.1 0 (by simp)
  have c1 : w1.cell? ⟨w.heap.size + 1 + 1, 1, none⟩ = some (.int .i64 0) := b2.2.1 1 (by simp)
  have c2 : w1.cell? ⟨w.heap.size + 1 + 1, 2, none⟩ = some (.bool false) := b2.2.1 2 (by simp)
  have c3 : w1.cell? ⟨w.heap.size + 1 + 1, 3, none⟩ = some (.int .i64 0) := b2.2.1 3 (by simp)
  have c4 : w1.cell? ⟨w.heap.size + 1 + 1, 4, none⟩ = some (.slice none 0 0) := b2.2.1 4 (by simp)
  have f2 := b2.2.2
  have a4' : W2.cell? ⟨w.heap.size, 4, none⟩ = some (.slice u l uc) := C0.2.1 4 (by simp)
  rw [hW2] at a4'
  clear b0 b1 b2 C0 C1 C2 hW2 HO
  go_wp2_with fail
  rw [← HW2.out]
  refine HI1.mono ?_
  rintro e w3 ⟨rfl, hown3, hb3⟩
  obtain ⟨g3, eg3⟩ : ∃ g, g = W2.heap.size := ⟨_, rfl⟩
  rw [← eg3] at hown3 ⊢
  have B1 := HB2L.out.1.below hb3
  have B2 := HB2L.out.2.below hb3
  have HB3 : Hid (Below w.heap.size w w3) := Below.on HBW2.out hb3
  have hz3 : g3 ≤ w3.heap.size := by have := hb3.size; omega
  have HIT : Hid (PvOwn w3 (w.heap.size + 1 + 1 + 1) w3.heap.size (some ⟨w.heap.size + 1 + 1 + 1, 0, none⟩) (some ⟨g3, 0, none⟩) x) := by
    obtain ⟨h1, h5⟩ := HO3.out
    obtain ⟨e1, e3⟩ := HM.out
    have e9 : g3 = w1.heap.size := by rw [eg3]; exact h5
    rw [← e9] at h1
    refine ⟨g3, by have := HG.out; omega, hz3, ?_, ?_⟩
    · have := h1.on hb3; rw [← e1]; exact this
    · have := hown3.up; rw [← e3]; exact this
  have HH : Hid (w.heap.size + 1 + 1 + 1 ≤ w3.heap.size) := by have := HG.out; obtain ⟨h1, h5⟩ := HO3.out; show _ ≤ _; omega
  clear hown3 hb3 HI1 eg3 hz3 a0 c0 a1 c1 a2 c2 a3 c3 a4 c4 f2 a4'
  obtain ⟨W3, hW3⟩ : ∃ W, W = (w3.setCell ⟨w.heap.size + 1 + 1, 4, none⟩ (.slice (some ⟨g3, 0, none⟩) l l)) := ⟨_, rfl⟩
  have D1 : BoxL W3 (w.heap.size + 1) [.slice none 0 0, .int .i64 0, .bool false, .int .i64 0, .slice none 0 0] := by rw [hW3]; exact B1.other (by simp) _
  have D2 : BoxL W3 (w.heap.size + 1 + 1) [.slice (some ⟨w.heap.size + 1 + 1 + 1, 0, none⟩) m m, .int .i64 ar, .bool dy, .int .i64 pl, .slice (some ⟨g3, 0, none⟩) l l] := by rw [hW3]; exact B2.set 4 _ (by simp)
  obtain ⟨W4, hW4⟩ : ∃ W, W = (((((W3.setCell ⟨w.heap.size + 1, 0, none⟩ (.slice (some ⟨w.heap.size + 1 + 1 + 1, 0, none⟩) m m)).setCell ⟨w.heap.size + 1, 1, none⟩ (.int .i64 ar)).setCell ⟨w.heap.size + 1, 2, none⟩ (.bool dy)).setCell ⟨w.heap.size + 1, 3, none⟩ (.int .i64 pl)).setCell ⟨w.heap.size + 1, 4, none⟩ (.slice (some ⟨g3, 0, none⟩) l l)) := ⟨_, rfl⟩
  have E1 : BoxL W4 (w.heap.size + 1) [.slice (some ⟨w.heap.size + 1 + 1 + 1, 0, none⟩) m m, .int .i64 ar, .bool dy, .int .i64 pl, .slice (some ⟨g3, 0, none⟩) l l] := by rw [hW4]; exact (((((D1.set 0 (.slice (some ⟨w.heap.size + 1 + 1 + 1, 0, none⟩) m m) (by simp)).set 1 (.int .i64 ar) (by simp)).set 2 (.bool dy) (by simp)).set 3 (.int .i64 pl) (by simp)).set 4 (.slice (some ⟨g3, 0, none⟩) l l) (by simp))
  have HIT4 : Hid (PvOwn W4 (w.heap.size + 1 + 1 + 1) W4.heap.size (some ⟨w.heap.size + 1 + 1 + 1, 0, none⟩) (some ⟨g3, 0, none⟩) x) := by
    have hz : W4.heap.size = w3.heap.size := by rw [hW4, hW3]; simp
    rw [hz, hW4, hW3]
    exact ((((((HIT.out.keep (keep_set _ _ _ _) (.inr (by omega))).keep (keep_set _ _ _ _) (.inr (by omega))).keep (keep_set _ _ _ _) (.inr (by omega))).keep (keep_set _ _ _ _) (.inr (by omega))).keep (keep_set _ _ _ _) (.inr (by omega))).keep (keep_set _ _ _ _) (.inr (by omega)))
  have HB4 : Hid (Below w.heap.size w W4) := by
    show Below _ _ _
    rw [hW4, hW3]
    exact ((((((HB3.out.setCell (p := ⟨_, _, none⟩) (by first | (simp; done) | (simp; omega)) _).setCell (p := ⟨_, _, none⟩) (by first | (simp; done) | (simp; omega)) _).setCell (p := ⟨_, _, none⟩) (by first | (simp; done) | (simp; omega)) _).setCell (p := ⟨_, _, none⟩) (by first | (simp; done) | (simp; omega)) _).setCell (p := ⟨_, _, none⟩) (by first | (simp; done) | (simp; omega)) _).setCell (p := ⟨_, _, none⟩) (by first | (simp; done) | (simp; omega)) _)
  have HE1 : Hid (BoxL W4 (w.heap.size + 1) [.slice (some ⟨w.heap.size + 1 + 1 + 1, 0, none⟩) m m, .int .i64 ar, .bool dy, .int .i64 pl, .slice (some ⟨g3, 0, none⟩) l l]) := E1
  have HW3 : Hid (W3 = (w3.setCell ⟨w.heap.size + 1 + 1, 4, none⟩ (.slice (some ⟨g3, 0, none⟩) l l))) := hW3
  have HW4 : Hid (W4 = (((((W3.setCell ⟨w.heap.size + 1, 0, none⟩ (.slice (some ⟨w.heap.size + 1 + 1 + 1, 0, none⟩) m m)).setCell ⟨w.heap.size + 1, 1, none⟩ (.int .i64 ar)).setCell ⟨w.heap.size + 1, 2, none⟩ (.bool dy)).setCell ⟨w.heap.size + 1, 3, none⟩ (.int .i64 pl)).setCell ⟨w.heap.size + 1, 4, none⟩ (.slice (some ⟨g3, 0, none⟩) l l))) := hW4
  have c27 : w3.cell? ⟨w.heap.size + 1 + 1, 4, none⟩ = some (.slice none 0 0) := B2.2.1 4 (by simp)
  have f2 := B2.2.2
  have z0 : W3.cell? ⟨w.heap.size + 1 + 1, 0, none⟩ = some (.slice (some ⟨w.heap.size + 1 + 1 + 1, 0, none⟩) m m) := D2.2.1 0 (by simp)
  have z1 : W3.cell? ⟨w.heap.size + 1 + 1, 1, none⟩ = some (.int .i64 ar) := D2.2.1 1 (by simp)
  have z2 : W3.cell? ⟨w.heap.size + 1 + 1, 2, none⟩ = some (.bool dy) := D2.2.1 2 (by simp)
  have z3 : W3.cell? ⟨w.heap.size + 1 + 1, 3, none⟩ = some (.int .i64 pl) := D2.2.1 3 (by simp)
  have z4 : W3.cell? ⟨w.heap.size + 1 + 1, 4, none⟩ = some (.slice (some ⟨g3, 0, none⟩) l l) := D2.2.1 4 (by simp)
  have y0 : W3.cell? ⟨w.heap.size + 1, 0, none⟩ = some (.slice none 0 0) := D1.2.1 0 (by simp)
  have y1 : W3.cell? ⟨w.heap.size + 1, 1, none⟩ = some (.int .i64 0) := D1.2.1 1 (by simp)
  have y2 : W3.cell? ⟨w.heap.size + 1, 2, none⟩ = some (.bool false) := D1.2.1 2 (by simp)
  have y3 : W3.cell? ⟨w.heap.size + 1, 3, none⟩ = some (.int .i64 0) := D1.2.1 3 (by simp)
  have y4 : W3.cell? ⟨w.heap.size + 1, 4, none⟩ = some (.slice none 0 0) := D1.2.1 4 (by simp)
  have f1 := D1.2.2
  rw [hW3] at z0 z1 z2 z3 z4 y0 y1 y2 y3 y4 f1
  clear B1 B2 D1 D2 E1 hW3 hW4
  go_wp2_with fail
  have E := HE1.out.2.1
  have q0 := E 0 (by simp); have q1 := E 1 (by simp); have q2 := E 2 (by simp); have q3 := E 3 (by simp); have q4 := E 4 (by simp)
  simp at q0 q1 q2 q3 q4
  rw [← HW3.out, ← HW4.out]
  exact bodyPost_ret (v := .agg #[.slice (some ⟨w.heap.size + 1 + 1 + 1, 0, none⟩) m m, .int .i64 ar, .bool dy, .int .i64 pl, .slice (some ⟨g3, 0, none⟩) l l]) (by simp [results, Tryz.results81, go_sem, q0, q1, q2, q3, q4]) rfl ⟨_, _, rfl, HIT4.out.down (by omega), HB4.out⟩
end Go.Proofs.YtjhbplgppakhoaaGreatDoor

