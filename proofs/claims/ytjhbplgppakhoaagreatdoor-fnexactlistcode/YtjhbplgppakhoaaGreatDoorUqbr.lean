/- Texts of LcI. Own work of the verifier. -/
import Derived.Test.YtjhbplgppakhoaaGreatDoorUqbq
import Derived.Test.YtjhbplgppakhoaaGreatDoorUqbj
import Derived.Test.YtjhbplgppakhoaaGreatDoorUqao
import Derived.Test.YtjhbplgppakhoaaGreatDoorUqap
namespace Go.Proofs.YtjhbplgppakhoaaGreatDoor
open Go Go.RowKit
set_option linter.unusedVariables false
set_option linter.unusedSimpArgs false
structure IvM (W : World) (T U n j : Nat) (xs : List Iv) (D : Nat → IvD) : Prop where
  lt : T < W.heap.size
  fr : ∀ o, W.frozen? ⟨T, o, none⟩ = false
  has : ∀ i, i < n → ∀ c, c < 8 → (W.cell? ⟨T, i * 8 + c, none⟩).isSome = true
  sl : ∀ i, i < n → W.cell? ⟨T, i * 8 + 5, none⟩ = some (.slice (D i).q (xs.getD i Iv.zero).c.2.2.length (xs.getD i Iv.zero).c.2.2.length) ∧ W.cell? ⟨T, i * 8 + 6, none⟩ = some (.slice (D i).s (xs.getD i Iv.zero).K.length (xs.getD i Iv.zero).K.length) ∧ W.cell? ⟨T, i * 8 + 7, none⟩ = some (.slice (D i).u (xs.getD i Iv.zero).L.length (xs.getD i Iv.zero).L.length)
  own : ∀ i, j ≤ i → i < n → IvOwn W (D i).lo (D i).hi (D i).q (D i).s (D i).u (xs.getD i Iv.zero)
  box : ∀ i, i < n → T < (D i).lo ∧ (D i).hi ≤ U
  ord : ∀ i j, i < j → j < n → (D i).hi ≤ (D j).lo
theorem IvU.toM {W : World} {T U n : Nat} {xs : List Iv} (h : IvU W T U n xs) : ∃ D, IvM W T U n 0 xs D := by
  obtain ⟨row, D, h1, h2, h3, h4, h5⟩ := h
  refine ⟨D, by omega, h1.frozenAt, fun i hi c hc => ?_, fun i hi => ?_, fun i _ hi => (h2 i hi).2.1, fun i hi => (h2 i hi).2.2, h3⟩
  · rw [h1.cellAt _ (by omega), (h2 i hi).1 c hc]
    match c, hc with
    | 0, _ => rfl
    | 1, _ => rfl
    | 2, _ => rfl
    | 3, _ => rfl
    | 4, _ => rfl
    | 5, _ => rfl
    | 6, _ => rfl
    | 7, _ => rfl
  · exact ⟨(h1.cellAt _ (by omega)).trans (((h2 i hi).1 5 (by omega)).trans rfl), (h1.cellAt _ (by omega)).trans (((h2 i hi).1 6 (by omega)).trans rfl), (h1.cellAt _ (by omega)).trans (((h2 i hi).1 7 (by omega)).trans rfl)⟩
theorem IvM.keep {W W' : World} {T U n j B V : Nat} {xs : List Iv} {D : Nat → IvD} (h : IvM W T U n j xs D) (hk : Keep B V W W') (hB : T < B) (hV : ∀ i, j ≤ i → i < n → V ≤ (D i).lo) : IvM W' T U n j xs D := by
  have hb := hk.block T h.lt (.inl hB)
  have hc : ∀ o, W'.cell? ⟨T, o, none⟩ = W.cell? ⟨T, o, none⟩ := fun o => World.cell?_of_block (w := W) (a := ⟨T, o, none⟩) hb
  refine ⟨Nat.lt_of_lt_of_le h.lt hk.size, fun o => (World.frozen?_of_block (w := W) (a := ⟨T, o, none⟩) hb).trans (h.fr o), fun i hi c hcc => by rw [hc]; exact h.has i hi c hcc, fun i hi => ?_, fun i hj hi => (h.own i hj hi).keep hk (.inr (hV i hj hi)), h.box, h.ord⟩
  simp only [hc]
  exact h.sl i hi
theorem IvM.next {W : World} {T U n j : Nat} {xs : List Iv} {D : Nat → IvD} (h : IvM W T U n j xs D) : IvM W T U n (j + 1) xs D := ⟨h.lt, h.fr, h.has, h.sl, fun i hj hi => h.own i (by omega) hi, h.box, h.ord⟩
theorem IvM.set {W : World} {T U n j : Nat} {xs : List Iv} {D : Nat → IvD} (h : IvM W T U n j xs D) (c : Nat) (hc : c < 8 ∧ c ≠ 5 ∧ c ≠ 6 ∧ c ≠ 7) (v : Value) : IvM (W.setCell ⟨T, j * 8 + c, none⟩ v) T U n j xs D := by
  refine ⟨by simpa using h.lt, fun o => by rw [World.frozen?_setCell]; exact h.fr o, fun i hi c' hc' => ?_, fun i hi => ?_, fun i hj hi => (h.own i hj hi).keep (keep_set _ _ _ _) (.inr (h.box i hi).1), h.box, h.ord⟩
  · by_cases e : i * 8 + c' = j * 8 + c
    · rw [e, World.cell?_setCell_same' _ _ _ (by rw [← e]; exact h.has i hi c' hc')]
      rfl
    · rw [World.cell?_setCell_other _ _ _ _ (by first | (simp; done) | (simp; omega))]
      exact h.has i hi c' hc'
  · obtain ⟨a0, a1, a2⟩ := h.sl i hi
    exact ⟨(World.cell?_setCell_other _ _ _ _ (by first | (simp; done) | (simp; omega))).trans a0, (World.cell?_setCell_other _ _ _ _ (by first | (simp; done) | (simp; omega))).trans a1, (World.cell?_setCell_other _ _ _ _ (by first | (simp; done) | (simp; omega))).trans a2⟩
set_option maxRecDepth 100000 in
set_option maxHeartbeats 2000000 in
theorem markInsS_any (T U n : Nat) (k : Int) (xs : List Iv) (w : World) (h0 : 0 ≤ k) (h1 : k ≤ 4000000) (hn : n = xs.length) (hsz : xs.length + szIs xs ≤ 1048576) (hown : IvU w T U n xs) :
    Calls Tryz.prog 57 #[.slice (some ⟨T, 0, none⟩) n n, .int .i64 k] w fun e w' => ∃ k', e = .returned (.int .i64 k') ∧ k ≤ k' ∧ k' ≤ k + ((5 * xs.length + 2 * szIs xs : Nat) : Int) ∧ Keep T U w w' := by
  have HTU : Hid (T < U) := by obtain ⟨row, D, _, _, _, h, _⟩ := hown; exact h
  obtain ⟨D, hM⟩ := hown.toM
  have HM : Hid (IvM w T U n 0 xs D) := hM
  have HN : Hid (n = xs.length ∧ xs.length + szIs xs ≤ 1048576) := ⟨hn, hsz⟩
  have hnb : n ≤ 1048576 := by omega
  clear hown hM hn hsz
  go_enter Tryz.func57, Tryz.ntmps57
  go_wp2_with fail
  go_loopw [1, 5] (fun q i wr => ∃ (j : Nat) (kj : Int), j ≤ n ∧ 0 ≤ kj ∧ kj ≤ 1000000000 ∧ i = .int .i64 j ∧ q = .int .i64 kj ∧ Hid (k ≤ kj ∧ kj ≤ k + ((5 * j + 2 * szIs (xs.take j) : Nat) : Int)) ∧ Hid (IvM wr T U n j xs D) ∧ Hid (Keep T U w wr)) (fun _ i _ => n - (intOf i).toNat)
  case atStart => exact ⟨0, k, Nat.zero_le _, h0, by omega, rfl, rfl, by refine ⟨Int.le_refl _, ?_⟩; simp [szIs], HM, Keep.refl _ _ _⟩
  case round =>
    obtain ⟨j, kj, hj, hk0, hk1, rfl, rfl, HK, HR, HG⟩ := hrel
    by_cases hlt : j < n
    · have hjl : j < xs.length := by rw [← HN.out.1]; exact hlt
      have hjn : (j : Int) < (n : Int) := by omega
      have hj0 : (0 : Int) ≤ (j : Int) := by omega
      obtain ⟨v0, c0⟩ := Option.isSome_iff_exists.1 (HR.out.has j hlt 0 (by omega))
      obtain ⟨v1, c1⟩ := Option.isSome_iff_exists.1 (HR.out.has j hlt 1 (by omega))
      obtain ⟨v2, c2⟩ := Option.isSome_iff_exists.1 (HR.out.has j hlt 2 (by omega))
      obtain ⟨v3, c3⟩ := Option.isSome_iff_exists.1 (HR.out.has j hlt 3 (by omega))
      obtain ⟨v4, c4⟩ := Option.isSome_iff_exists.1 (HR.out.has j hlt 4 (by omega))
      rw [Nat.add_zero] at c0
      obtain ⟨d5, d6, d7⟩ := HR.out.sl j hlt
      have ff := HR.out.fr
      have M1 : IvM (((((wr.setCell ⟨T, j * 8, none⟩ (.int .i64 kj)).setCell ⟨T, j * 8 + 1, none⟩ (.int .i64 (kj + 1))).setCell ⟨T, j * 8 + 2, none⟩ (.int .i64 (kj + 1 + 1))).setCell ⟨T, j * 8 + 3, none⟩ (.int .i64 (kj + 1 + 1 + 1))).setCell ⟨T, j * 8 + 4, none⟩ (.int .i64 (kj + 1 + 1 + 1 + 1))) T U n j xs D := (IvM.set (IvM.set (IvM.set (IvM.set (IvM.set HR.out 0 (by omega) (.int .i64 kj)) 1 (by omega) (.int .i64 (kj + 1))) 2 (by omega) (.int .i64 (kj + 1 + 1))) 3 (by omega) (.int .i64 (kj + 1 + 1 + 1))) 4 (by omega) (.int .i64 (kj + 1 + 1 + 1 + 1)))
      obtain ⟨m1, m2, g1, g2, g3, o1, o2, o3⟩ := (M1.own j (Nat.le_refl _) hlt).ex
      obtain ⟨hb1, hb2⟩ := M1.box j hlt
      have hbs := szIs_at xs j hjl
      have htk := szIs_take xs j hjl
      have htl := szIs_take_le xs (j + 1)
      have hN2 := HN.out.2
      have hKb := HK.out
      have hkb : kj + 1 + 1 + 1 + 1 + 1 + (xs.getD j Iv.zero).c.2.2.length ≤ 10000000 := by unfold szI at hbs htk; omega
      have HMARK := markT_any (D j).lo (D j).q _ _ (kj + 1 + 1 + 1 + 1 + 1) _ _ (by omega) (by omega) (by unfold szI at hbs; omega) o1.1
      have HST : Hid (∀ w3, ((((((wr.setCell ⟨T, j * 8, none⟩ (.int .i64 kj)).setCell ⟨T, j * 8 + 1, none⟩ (.int .i64 (kj + 1))).setCell ⟨T, j * 8 + 2, none⟩ (.int .i64 (kj + 1 + 1))).setCell ⟨T, j * 8 + 3, none⟩ (.int .i64 (kj + 1 + 1 + 1))).setCell ⟨T, j * 8 + 4, none⟩ (.int .i64 (kj + 1 + 1 + 1 + 1)))).grownBy w3 (tb (D j).q (xs.getD j Iv.zero).c.2.2.length) → IvM w3 T U n (j + 1) xs D ∧ Keep T U wr w3 ∧ OwnCU w3 m1 m2 (D j).s (xs.getD j Iv.zero).K.length (xs.getD j Iv.zero).K.length (xs.getD j Iv.zero).K ∧ OwnIU w3 m2 (D j).hi (D j).u (xs.getD j Iv.zero).L.length (xs.getD j Iv.zero).L.length (xs.getD j Iv.zero).L) := fun w3 hg => by
        have hkp : Keep (D j).lo m1 (((((wr.setCell ⟨T, j * 8, none⟩ (.int .i64 kj)).setCell ⟨T, j * 8 + 1, none⟩ (.int .i64 (kj + 1))).setCell ⟨T, j * 8 + 2, none⟩ (.int .i64 (kj + 1 + 1))).setCell ⟨T, j * 8 + 3, none⟩ (.int .i64 (kj + 1 + 1 + 1))).setCell ⟨T, j * 8 + 4, none⟩ (.int .i64 (kj + 1 + 1 + 1 + 1))) w3 := Keep.of_grown hg (fun g e => ⟨(o1.1.tb e).2.1, o1.2 g e⟩)
        have hks : Keep T U wr (((((wr.setCell ⟨T, j * 8, none⟩ (.int .i64 kj)).setCell ⟨T, j * 8 + 1, none⟩ (.int .i64 (kj + 1))).setCell ⟨T, j * 8 + 2, none⟩ (.int .i64 (kj + 1 + 1))).setCell ⟨T, j * 8 + 3, none⟩ (.int .i64 (kj + 1 + 1 + 1))).setCell ⟨T, j * 8 + 4, none⟩ (.int .i64 (kj + 1 + 1 + 1 + 1))) := ((((((keep_set wr T (j * 8) (.int .i64 kj)).trans (keep_set _ T _ _)).trans (keep_set _ T _ _)).trans (keep_set _ T _ _)).trans (keep_set _ T _ _)).widen (Nat.le_refl _) (by have := HTU.out; omega))
        exact ⟨M1.next.keep hkp hb1 (fun i h1 h2 => by have := M1.ord j i (by omega) h2; omega), hks.trans (hkp.widen (by omega) (by omega)), o2.keep hkp (.inr (Nat.le_refl _)), o3.keep hkp (.inr (by omega))⟩
      have HV : Hid (T < m1 ∧ m2 ≤ (D j).hi ∧ m1 ≤ m2 ∧ (D j).hi ≤ U ∧ ∀ i, j + 1 ≤ i → i < n → (D j).hi ≤ (D i).lo) := ⟨by omega, g3, g2, hb2, fun i h1 h2 => M1.ord j i (by omega) h2⟩
      have HSZ : Hid ((xs.getD j Iv.zero).c.2.2.length + ((xs.getD j Iv.zero).K.length + tl (xs.getD j Iv.zero).K) + (xs.getD j Iv.zero).L.length ≤ 1048576 ∧ szIs (xs.take (j + 1)) = szIs (xs.take j) + ((xs.getD j Iv.zero).c.2.2.length + ((xs.getD j Iv.zero).K.length + tl (xs.getD j Iv.zero).K) + (xs.getD j Iv.zero).L.length) ∧ szIs (xs.take (j + 1)) ≤ szIs xs) := by unfold szI at hbs htk; exact ⟨by omega, htk, htl⟩
      obtain ⟨x, ex⟩ : ∃ x, x = xs.getD j Iv.zero := ⟨_, rfl⟩
      rw [← ex] at d5 d6 d7 HMARK HST HSZ hkb
      have HX : Hid (x = xs.getD j Iv.zero) := ex
      obtain ⟨m, em⟩ : ∃ m, m = x.c.2.2.length := ⟨_, rfl⟩
      obtain ⟨nk, enk⟩ : ∃ m, m = x.K.length := ⟨_, rfl⟩
      obtain ⟨nl, enl⟩ : ∃ m, m = x.L.length := ⟨_, rfl⟩
      rw [← em] at d5 HMARK HST HSZ hkb
      rw [← enk] at d6 HST HSZ
      rw [← enl] at d7 HST HSZ
      obtain ⟨q', eq'⟩ : ∃ q, q = (D j).q := ⟨_, rfl⟩
      obtain ⟨s', es'⟩ : ∃ q, q = (D j).s := ⟨_, rfl⟩
      obtain ⟨u', eu'⟩ : ∃ q, q = (D j).u := ⟨_, rfl⟩
      rw [← eq'] at d5 HMARK HST
      rw [← es'] at d6 HST
      rw [← eu'] at d7 HST
      have HE : Hid (nk = x.K.length ∧ nl = x.L.length ∧ s' = (D j).s ∧ u' = (D j).u) := ⟨enk, enl, es', eu'⟩
      clear M1 o1 o2 o3 g1 g2 g3 hb1 hb2 hbs htk htl hN2 hKb ex em enk enl eq' es' eu' HM
      go_wp2_with fail
      refine HMARK.mono ?_
      rintro e w3 ⟨rfl, ho3, hg3⟩
      have H3 := HST.out w3 hg3
      have HO3 : Hid (IvM w3 T U n (j + 1) xs D ∧ OwnIU w3 m2 (D j).hi u' nl nl x.L) := ⟨H3.1, H3.2.2.2⟩
      have HG3 : Hid (Keep T U w w3) := HG.out.trans H3.2.1
      obtain ⟨_, e6, e7⟩ := H3.1.sl j hlt
      rw [← HX.out, ← HE.out.1, ← HE.out.2.2.1] at e6
      have HC := markCells_any m1 m2 s' nk nk (kj + 1 + 1 + 1 + 1 + 1 + m) x.K w3 (by omega) (by omega) (by have := HSZ.out.1; have := HE.out.1; omega) H3.2.2.1
      clear ho3 hg3 H3 HMARK HST d5 d6 d7 e7 ff c0 c1 c2 c3 c4
      go_wp2_with fail
      refine HC.mono ?_
      rintro e w4 ⟨rfl, _, hk4⟩
      have H4 : IvM w4 T U n (j + 1) xs D := HO3.out.1.keep hk4 HV.out.1 (fun i h1 h2 => by have := HV.out.2.2.2.2 i h1 h2; have := HV.out.2.1; omega)
      have HG4 : Hid (Keep T U w w4) := HG3.out.trans (hk4.widen (by have := HV.out.1; omega) (by have := HV.out; omega))
      have HO4 : Hid (IvM w4 T U n (j + 1) xs D) := H4
      have o4 := HO3.out.2.keep hk4 (.inr (Nat.le_refl _))
      obtain ⟨_, _, e7⟩ := H4.sl j hlt
      rw [← HX.out, ← HE.out.2.1, ← HE.out.2.2.2] at e7
      obtain ⟨kc, ekc⟩ : ∃ y, y = endC (kj + 1 + 1 + 1 + 1 + 1 + m) x.K := ⟨_, rfl⟩
      rw [← ekc]
      rw [endC_eq, ← HE.out.1] at ekc
      have hkc0 : 0 ≤ kc := by omega
      have hkc1 : kc ≤ 1000000000 := by have := HSZ.out.1; omega
      have HI := markIntS_any m2 u' nl nl kc x.L w4 hkc0 (by omega) (by have := HSZ.out.1; omega) o4.1
      have HQ : Hid (∀ w5, w4.grownBy w5 (Value.ownBlock (.slice u' nl nl)) → Keep m2 (D j).hi w4 w5) := fun w5 hg => Keep.of_grown hg (fun g e => ⟨(o4.1.2.lt g e).1, o4.2 g e⟩)
      have HKC : Hid (kc = kj + 1 + 1 + 1 + 1 + 1 + m + 2 * nk + tl x.K) := ekc
      clear H4 o4 e6 hk4 HC ekc
      go_wp2_with fail
      refine HI.mono ?_
      rintro e w5 ⟨rfl, _, hg5⟩
      have hk5 := HQ.out w5 hg5
      have HO5 : Hid (IvM w5 T U n (j + 1) xs D) := HO4.out.keep hk5 (by have := HV.out; omega) (fun i h1 h2 => HV.out.2.2.2.2 i h1 h2)
      have HG5 : Hid (Keep T U w w5) := HG4.out.trans (hk5.widen (by have := HV.out; omega) (by have := HV.out; omega))
      clear hg5 hk5 HI e7
      go_wp2_with fail
      go_roundw
      case rel =>
        have z1 := HSZ.out
        have z2 := HKC.out
        have z3 := HK.out
        have z4 := HN.out
        exact ⟨j + 1, kc + nl, by omega, by omega, by omega, by go_num, rfl, by refine ⟨by omega, ?_⟩; rw [z1.2.1]; omega, HO5, HG5⟩
      case measure => simp [intOf]; omega
    · obtain rfl : j = n := by omega
      go_wp2_with fail
      go_ret
      have z3 := HK.out
      have z4 := HN.out
      refine ⟨kj, rfl, z3.1, ?_, HG.out⟩
      have := szIs_take_le xs j
      omega
structure PvM (W : World) (T U n j : Nat) (xs : List Pv) (D : Nat → PvD) : Prop where
  lt : T < W.heap.size
  fr : ∀ o, W.frozen? ⟨T, o, none⟩ = false
  has : ∀ i, i < n → ∀ c, c < 5 → (W.cell? ⟨T, i * 5 + c, none⟩).isSome = true
  sl : ∀ i, i < n → W.cell? ⟨T, i * 5, none⟩ = some (.slice (D i).q (xs.getD i Pv.zero).nm.length (xs.getD i Pv.zero).nm.length) ∧ W.cell? ⟨T, i * 5 + 4, none⟩ = some (.slice (D i).u (xs.getD i Pv.zero).cl.length (xs.getD i Pv.zero).cl.length)
  own : ∀ i, j ≤ i → i < n → PvOwn W (D i).lo (D i).hi (D i).q (D i).u (xs.getD i Pv.zero)
  box : ∀ i, i < n → T < (D i).lo ∧ (D i).hi ≤ U
  ord : ∀ i j, i < j → j < n → (D i).hi ≤ (D j).lo
theorem PvU.toM {W : World} {T U n : Nat} {xs : List Pv} (h : PvU W T U n xs) : ∃ D, PvM W T U n 0 xs D := by
  obtain ⟨row, D, h1, h2, h3, h4, h5⟩ := h
  refine ⟨D, by omega, h1.frozenAt, fun i hi c hc => ?_, fun i hi => ?_, fun i _ hi => (h2 i hi).2.1, fun i hi => (h2 i hi).2.2, h3⟩
  · rw [h1.cellAt _ (by omega), (h2 i hi).1 c hc]
    match c, hc with
    | 0, _ => rfl
    | 1, _ => rfl
    | 2, _ => rfl
    | 3, _ => rfl
    | 4, _ => rfl
  · exact ⟨(h1.cellAt _ (by omega)).trans (((h2 i hi).1 0 (by omega)).trans rfl), (h1.cellAt _ (by omega)).trans (((h2 i hi).1 4 (by omega)).trans rfl)⟩
theorem PvM.keep {W W' : World} {T U n j B V : Nat} {xs : List Pv} {D : Nat → PvD} (h : PvM W T U n j xs D) (hk : Keep B V W W') (hB : T < B) (hV : ∀ i, j ≤ i → i < n → V ≤ (D i).lo) : PvM W' T U n j xs D := by
  have hb := hk.block T h.lt (.inl hB)
  have hc : ∀ o, W'.cell? ⟨T, o, none⟩ = W.cell? ⟨T, o, none⟩ := fun o => World.cell?_of_block (w := W) (a := ⟨T, o, none⟩) hb
  refine ⟨Nat.lt_of_lt_of_le h.lt hk.size, fun o => (World.frozen?_of_block (w := W) (a := ⟨T, o, none⟩) hb).trans (h.fr o), fun i hi c hcc => by rw [hc]; exact h.has i hi c hcc, fun i hi => ?_, fun i hj hi => (h.own i hj hi).keep hk (.inr (hV i hj hi)), h.box, h.ord⟩
  simp only [hc]
  exact h.sl i hi
theorem PvM.next {W : World} {T U n j : Nat} {xs : List Pv} {D : Nat → PvD} (h : PvM W T U n j xs D) : PvM W T U n (j + 1) xs D := ⟨h.lt, h.fr, h.has, h.sl, fun i hj hi => h.own i (by omega) hi, h.box, h.ord⟩
theorem PvM.set {W : World} {T U n j : Nat} {xs : List Pv} {D : Nat → PvD} (h : PvM W T U n j xs D) (c : Nat) (hc : c < 5 ∧ c ≠ 0 ∧ c ≠ 4) (v : Value) : PvM (W.setCell ⟨T, j * 5 + c, none⟩ v) T U n j xs D := by
  refine ⟨by simpa using h.lt, fun o => by rw [World.frozen?_setCell]; exact h.fr o, fun i hi c' hc' => ?_, fun i hi => ?_, fun i hj hi => (h.own i hj hi).keep (keep_set _ _ _ _) (.inr (h.box i hi).1), h.box, h.ord⟩
  · by_cases e : i * 5 + c' = j * 5 + c
    · rw [e, World.cell?_setCell_same' _ _ _ (by rw [← e]; exact h.has i hi c' hc')]
      rfl
    · rw [World.cell?_setCell_other _ _ _ _ (by first | (simp; done) | (simp; omega))]
      exact h.has i hi c' hc'
  · obtain ⟨a0, a1⟩ := h.sl i hi
    exact ⟨(World.cell?_setCell_other _ _ _ _ (by first | (simp; done) | (simp; omega))).trans a0, (World.cell?_setCell_other _ _ _ _ (by first | (simp; done) | (simp; omega))).trans a1⟩
theorem PvM.setO {W : World} {T U n j : Nat} {xs : List Pv} {D : Nat → PvD} (h : PvM W T U n j xs D) (o : Nat) (hc : ∀ i, i < n → o ≠ i * 5 ∧ o ≠ i * 5 + 4) (v : Value) : PvM (W.setCell ⟨T, o, none⟩ v) T U n j xs D := by
  refine ⟨by simpa using h.lt, fun o => by rw [World.frozen?_setCell]; exact h.fr o, fun i hi c' hc' => ?_, fun i hi => ?_, fun i hj hi => (h.own i hj hi).keep (keep_set _ _ _ _) (.inr (h.box i hi).1), h.box, h.ord⟩
  · by_cases e : i * 5 + c' = o
    · rw [e, World.cell?_setCell_same' _ _ _ (by rw [← e]; exact h.has i hi c' hc')]
      rfl
    · rw [World.cell?_setCell_other _ _ _ _ (by first | (simp; done) | (simp; omega))]
      exact h.has i hi c' hc'
  · obtain ⟨a0, a1⟩ := h.sl i hi
    have := hc i hi
    exact ⟨(World.cell?_setCell_other _ _ _ _ (by first | (simp; done) | (simp; omega))).trans a0, (World.cell?_setCell_other _ _ _ _ (by first | (simp; done) | (simp; omega))).trans a1⟩
set_option maxRecDepth 100000 in
set_option maxHeartbeats 2000000 in
theorem markProcS_any (T U n : Nat) (k : Int) (xs : List Pv) (w : World) (h0 : 0 ≤ k) (h1 : k ≤ 100000000) (hn : n = xs.length) (hsz : xs.length + szVs xs ≤ 1048576) (hown : PvU w T U n xs) :
    Calls Tryz.prog 58 #[.slice (some ⟨T, 0, none⟩) n n, .int .i64 k] w fun e w' => ∃ k', e = .returned (.int .i64 k') ∧ k ≤ k' ∧ k' ≤ k + ((3 * xs.length + szVs xs : Nat) : Int) ∧ Keep T U w w' := by
  have HTU : Hid (T < U) := by obtain ⟨row, D, _, _, _, h, _⟩ := hown; exact h
  obtain ⟨D, hM⟩ := hown.toM
  have HM : Hid (PvM w T U n 0 xs D) := hM
  have HN : Hid (n = xs.length ∧ xs.length + szVs xs ≤ 1048576) := ⟨hn, hsz⟩
  have hnb : n ≤ 1048576 := by omega
  clear hown hM hn hsz
  go_enter Tryz.func58, Tryz.ntmps58
  go_wp2_with fail
  go_loopw [1, 5] (fun q i wr => ∃ (j : Nat) (kj : Int), j ≤ n ∧ 0 ≤ kj ∧ kj ≤ 1000000000 ∧ i = .int .i64 j ∧ q = .int .i64 kj ∧ Hid (k ≤ kj ∧ kj ≤ k + ((3 * j + szVs (xs.take j) : Nat) : Int)) ∧ Hid (PvM wr T U n j xs D) ∧ Hid (Keep T U w wr)) (fun _ i _ => n - (intOf i).toNat)
  case atStart => exact ⟨0, k, Nat.zero_le _, h0, by omega, rfl, rfl, by refine ⟨Int.le_refl _, ?_⟩; simp [szVs], HM, Keep.refl _ _ _⟩
  case round =>
    obtain ⟨j, kj, hj, hk0, hk1, rfl, rfl, HK, HR, HG⟩ := hrel
    by_cases hlt : j < n
    · have hjl : j < xs.length := by rw [← HN.out.1]; exact hlt
      have hjn : (j : Int) < (n : Int) := by omega
      have hj0 : (0 : Int) ≤ (j : Int) := by omega
      obtain ⟨d0, d4⟩ := HR.out.sl j hlt
      have M1 : PvM wr T U n j xs D := HR.out
      obtain ⟨m1, g1, g3, o1, o3⟩ := (M1.own j (Nat.le_refl _) hlt).ex
      obtain ⟨hb1, hb2⟩ := M1.box j hlt
      have hbs := szVs_at xs j hjl
      have htk := szVs_take xs j hjl
      have htl := szVs_take_le xs (j + 1)
      have hN2 := HN.out.2
      have hKb := HK.out
      have hkb : kj + (xs.getD j Pv.zero).nm.length ≤ 500000000 := by unfold szV at hbs htk; omega
      have HMARK := markT_any (D j).lo (D j).q _ _ kj _ _ (by omega) (by omega) (by unfold szV at hbs; omega) o1.1
      have HST : Hid (∀ w3, wr.grownBy w3 (tb (D j).q (xs.getD j Pv.zero).nm.length) → PvM w3 T U n (j + 1) xs D ∧ Keep T U wr w3 ∧ OwnIU w3 m1 (D j).hi (D j).u (xs.getD j Pv.zero).cl.length (xs.getD j Pv.zero).cl.length (xs.getD j Pv.zero).cl) := fun w3 hg => by
        have hkp : Keep (D j).lo m1 wr w3 := Keep.of_grown hg (fun g e => ⟨(o1.1.tb e).2.1, o1.2 g e⟩)
        exact ⟨M1.next.keep hkp hb1 (fun i h1 h2 => by have := M1.ord j i (by omega) h2; omega), hkp.widen (by omega) (by omega), o3.keep hkp (.inr (by omega))⟩
      have HV : Hid (T < m1 ∧ m1 ≤ (D j).hi ∧ (D j).hi ≤ U ∧ ∀ i, j + 1 ≤ i → i < n → (D j).hi ≤ (D i).lo) := ⟨by omega, g3, hb2, fun i h1 h2 => M1.ord j i (by omega) h2⟩
      have HSZ : Hid ((xs.getD j Pv.zero).nm.length + (xs.getD j Pv.zero).cl.length ≤ 1048576 ∧ szVs (xs.take (j + 1)) = szVs (xs.take j) + ((xs.getD j Pv.zero).nm.length + (xs.getD j Pv.zero).cl.length) ∧ szVs (xs.take (j + 1)) ≤ szVs xs) := by unfold szV at hbs htk; exact ⟨by omega, htk, htl⟩
      obtain ⟨x, ex⟩ : ∃ x, x = xs.getD j Pv.zero := ⟨_, rfl⟩
      rw [← ex] at d0 d4 HMARK HST HSZ hkb
      have HX : Hid (x = xs.getD j Pv.zero) := ex
      obtain ⟨m, em⟩ : ∃ m, m = x.nm.length := ⟨_, rfl⟩
      obtain ⟨nl, enl⟩ : ∃ m, m = x.cl.length := ⟨_, rfl⟩
      rw [← em] at d0 HMARK HST HSZ hkb
      rw [← enl] at d4 HST HSZ
      obtain ⟨q', eq'⟩ : ∃ q, q = (D j).q := ⟨_, rfl⟩
      obtain ⟨u', eu'⟩ : ∃ q, q = (D j).u := ⟨_, rfl⟩
      rw [← eq'] at d0 HMARK HST
      rw [← eu'] at d4 HST
      have HE : Hid (nl = x.cl.length ∧ u' = (D j).u) := ⟨enl, eu'⟩
      clear M1 o1 o3 g1 g3 hb1 hb2 hbs htk htl hN2 hKb ex em enl eq' eu' HM
      go_wp2_with fail
      refine HMARK.mono ?_
      rintro e w3 ⟨rfl, ho3, hg3⟩
      have H3 := HST.out w3 hg3
      have M3 := H3.1
      have HG3 : Hid (Keep T U w w3) := HG.out.trans H3.2.1
      obtain ⟨v1, c1⟩ := Option.isSome_iff_exists.1 (M3.has j hlt 1 (by omega))
      obtain ⟨v2, c2⟩ := Option.isSome_iff_exists.1 (M3.has j hlt 2 (by omega))
      obtain ⟨v3, c3⟩ := Option.isSome_iff_exists.1 (M3.has j hlt 3 (by omega))
      obtain ⟨_, e4⟩ := M3.sl j hlt
      rw [← HX.out, ← HE.out.1, ← HE.out.2] at e4
      have ff := M3.fr
      have HM3 : Hid (∀ bb, PvM (((w3.setCell ⟨T, j * 5 + 1, none⟩ (.int .i64 (kj + m))).setCell ⟨T, j * 5 + 2, none⟩ (.bool bb)).setCell ⟨T, j * 5 + 3, none⟩ (.int .i64 (kj + m + 1 + 1))) T U n (j + 1) xs D ∧ Keep T U w3 (((w3.setCell ⟨T, j * 5 + 1, none⟩ (.int .i64 (kj + m))).setCell ⟨T, j * 5 + 2, none⟩ (.bool bb)).setCell ⟨T, j * 5 + 3, none⟩ (.int .i64 (kj + m + 1 + 1))) ∧ OwnIU (((w3.setCell ⟨T, j * 5 + 1, none⟩ (.int .i64 (kj + m))).setCell ⟨T, j * 5 + 2, none⟩ (.bool bb)).setCell ⟨T, j * 5 + 3, none⟩ (.int .i64 (kj + m + 1 + 1))) m1 (D j).hi u' nl nl x.cl) := fun bb =>
        ⟨((M3.setO (j * 5 + 1) (fun i hi => by omega) _).setO (j * 5 + 2) (fun i hi => by omega) _).setO (j * 5 + 3) (fun i hi => by omega) _, (((keep_set w3 T (j * 5 + 1) _).trans (keep_set _ T _ _)).trans (keep_set _ T _ _)).widen (Nat.le_refl _) (by have := HTU.out; omega), ((H3.2.2.keep (keep_set _ _ _ _) (.inr (by have := HV.out.1; omega))).keep (keep_set _ _ _ _) (.inr (by have := HV.out.1; omega))).keep (keep_set _ _ _ _) (.inr (by have := HV.out.1; omega))⟩
      have hkm0 : 0 ≤ kj + m := by omega
      have hkm1 : kj + m ≤ 500000000 := by omega
      have HI : Hid (∀ bb, Calls Tryz.prog 86 #[.slice u' nl nl, .int .i64 (kj + m + 1 + 1 + 1)] (((w3.setCell ⟨T, j * 5 + 1, none⟩ (.int .i64 (kj + m))).setCell ⟨T, j * 5 + 2, none⟩ (.bool bb)).setCell ⟨T, j * 5 + 3, none⟩ (.int .i64 (kj + m + 1 + 1))) fun e w' => e = .returned (.int .i64 (kj + m + 1 + 1 + 1 + nl)) ∧ OwnI w' m1 3 u' nl nl (ups (kj + m + 1 + 1 + 1) nl) ∧ ((((w3.setCell ⟨T, j * 5 + 1, none⟩ (.int .i64 (kj + m))).setCell ⟨T, j * 5 + 2, none⟩ (.bool bb)).setCell ⟨T, j * 5 + 3, none⟩ (.int .i64 (kj + m + 1 + 1)))).grownBy w' (Value.ownBlock (.slice u' nl nl))) := fun bb => markIntS_any m1 u' nl nl (kj + m + 1 + 1 + 1) x.cl _ (by omega) (by omega) (by have := HSZ.out.1; omega) (HM3.out bb).2.2.1
      clear ho3 hg3 H3 M3 HMARK HST d0 d4
      go_wp2_with fail
      refine (HI.out _).mono ?_
      rintro e w5 ⟨rfl, _, hg5⟩
      have HF : Hid (PvM w5 T U n (j + 1) xs D ∧ Keep T U w w5) := by
        have h3 := HM3.out (decide ((kj + m + 1) % 3 = 0))
        have hk5 : Keep m1 (D j).hi _ w5 := Keep.of_grown hg5 (fun g e => ⟨(h3.2.2.1.2.lt g e).1, h3.2.2.2 g e⟩)
        exact ⟨h3.1.keep hk5 HV.out.1 (fun i h1 h2 => HV.out.2.2.2 i h1 h2), (HG3.out.trans h3.2.1).trans (hk5.widen (by have := HV.out; omega) (by have := HV.out; omega))⟩
      clear hg5 c1 c2 c3 e4 ff
      go_wp2_with fail
      go_roundw
      case rel =>
        have z1 := HSZ.out
        have z3 := HK.out
        have z4 := HN.out
        exact ⟨j + 1, kj + m + 1 + 1 + 1 + nl, by omega, by omega, by omega, by go_num, rfl, by refine ⟨by omega, ?_⟩; rw [z1.2.1]; omega, HF.out.1, HF.out.2⟩
      case measure => simp [intOf]; omega
    · obtain rfl : j = n := by omega
      go_wp2_with fail
      go_ret
      have z3 := HK.out
      have z4 := HN.out
      refine ⟨kj, rfl, z3.1, ?_, HG.out⟩
      have := szVs_take_le xs j
      omega
set_option maxRecDepth 100000 in
set_option maxHeartbeats 1000000 in
theorem markCode_any (T G U : Nat) (k : Int) (xs : List Iv) (vs : List Pv) (N M : Nat) (w : World) (h0 : 0 ≤ k) (h1 : k ≤ 4000000) (hN : N = xs.length) (hM : M = vs.length) (hsz : szK2 xs vs ≤ 1048576) (hI : IvU w T G xs.length xs) (hP : PvU w G U vs.length vs) :
    Calls Tryz.prog 27 #[.agg #[.slice (some ⟨T, 0, none⟩) N N, .slice (some ⟨G, 0, none⟩) M M], .int .i64 k] w fun e w' => ∃ k', e = .returned (.int .i64 k') ∧ 0 ≤ k' ∧ Keep T U w w' := by
  unfold szK2 at hsz
  have hb0 : ∀ o, Below w.heap.size w (w.alloc o) := fun o => (Below.refl _ _).alloc (Nat.le_refl _) _
  subst hN hM
  have HU : Hid (T < G ∧ G < U ∧ U ≤ w.heap.size) := by
    obtain ⟨_, _, _, _, _, a, b⟩ := hI
    obtain ⟨_, _, _, _, _, c, d⟩ := hP
    exact ⟨a, c, d⟩
  have HS : Hid (∀ o, Calls Tryz.prog 57 #[.slice (some ⟨T, 0, none⟩) xs.length xs.length, .int .i64 k] (w.alloc o) fun e w' => ∃ k', e = .returned (.int .i64 k') ∧ k ≤ k' ∧ k' ≤ k + ((5 * xs.length + 2 * szIs xs : Nat) : Int) ∧ Keep T G (w.alloc o) w') := fun o => markInsS_any T G xs.length k xs _ h0 h1 rfl (by omega) (hI.on (hb0 o))
  have HP : Hid (∀ o, PvU (w.alloc o) G U vs.length vs) := fun o => hP.on (hb0 o)
  have HQ : Hid (∀ (W : World) (k' : Int), PvU W G U vs.length vs → k ≤ k' → k' ≤ k + ((5 * xs.length + 2 * szIs xs : Nat) : Int) → Calls Tryz.prog 58 #[.slice (some ⟨G, 0, none⟩) vs.length vs.length, .int .i64 k'] W fun e w' => ∃ k2, e = .returned (.int .i64 k2) ∧ k' ≤ k2 ∧ k2 ≤ k' + ((3 * vs.length + szVs vs : Nat) : Int) ∧ Keep G U W w') := fun W k' hW hk1 hk2 => markProcS_any G U vs.length k' vs W (by omega) (by omega) rfl (by omega) hW
  have HB : Hid (∀ o, (w.alloc o).heap[w.heap.size]? = some o) := fun o => heap_alloc_new w o
  clear hI hP hsz hb0
  go_enter Tryz.func27, Tryz.ntmps27
  go_wp2_with fail
  refine (HS.out _).mono ?_
  rintro e w1 ⟨k1, rfl, hk1, hk2, hkp⟩
  have hu := HU.out
  have c1 := cell_of_row _ _ 1 _ _ _ ((hkp.block w.heap.size (by simp) (.inr (by omega))).trans (HB.out _))
  simp at c1
  have HC := HQ.out w1 k1 ((HP.out _).keep hkp (.inr (Nat.le_refl _))) hk1 hk2
  have HK1 : Hid (Keep T U w w1) := by have := (Keep.new T U w (.cells #[.slice (some ⟨T, 0, none⟩) xs.length xs.length, .slice (some ⟨G, 0, none⟩) vs.length vs.length] 52)); exact this.trans (hkp.widen (Nat.le_refl _) (by omega))
  clear hkp hk2
  go_wp2_with fail
  refine HC.mono ?_
  rintro e w2 ⟨k2, rfl, hk3, _, hkq⟩
  have HK2 : Hid (Keep T U w w2) := HK1.out.trans (hkq.widen (by omega) (Nat.le_refl _))
  clear hkq HC
  go_wp2_with fail
  go_ret
  exact ⟨k2, rfl, by omega, HK2.out⟩
end Go.Proofs.YtjhbplgppakhoaaGreatDoor

